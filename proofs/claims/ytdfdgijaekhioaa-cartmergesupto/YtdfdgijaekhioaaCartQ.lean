/-
  The law's SameEvent and right: has each dot one event, with a Qty that may be?
-/
import Derived.Test.YtdfdgijaekhioaaCartA
import Derived.Deep.RegionHeld3
import Derived.Deep.QuietTactic
import Derived.BigQuiet
namespace Go.Proofs.Ytdfdgijaekhioaa
open Go.RowKit Go.Maps

set_option maxRecDepth 100000 in
set_option maxHeartbeats 1000000 in
theorem sameEv_any (w : World) (x y : EvM) (hx : EvOk w x) (hy : EvOk w y) :
    Calls Try.prog 22 #[x.val, y.val] w fun e w' => e = .returned (.bool (decide (x.e = y.e))) ∧ Below w.heap.size w w' := by
  have HB := hid (ev_two w x y)
  have HEQ : Hid (Calls Try.prog 38 #[.slice x.ao x.e.deps.length x.cap, .slice y.ao y.e.deps.length y.cap] ((w.alloc (.cells x.cells.toArray 29)).alloc (.cells y.cells.toArray 29)) fun e w' => e = .returned (.bool (decide (x.e.deps = y.e.deps))) ∧ ∃ q, w' = ((w.alloc (.cells x.cells.toArray 29)).alloc (.cells y.cells.toArray 29)).drewN q) :=
    sameVec_any _ x.ao y.ao x.cap y.cap x.e.deps y.e.deps _ _ rfl rfl (hx.deps.below HB.out) (hy.deps.below HB.out)
  obtain ⟨⟨o1, s1, d1, c1, p1, k1, q1, b1⟩, ao1, cap1⟩ := x
  obtain ⟨⟨o2, s2, d2, c2, p2, k2, q2, b2⟩, ao2, cap2⟩ := y
  simp only [EvM.cells] at HB HEQ
  simp only [EvM.val]
  clear hx hy
  obtain ⟨n1, HN1⟩ : ∃ n, Hid (d1.length = n) := ⟨_, hid rfl⟩
  obtain ⟨n2, HN2⟩ : ∃ n, Hid (d2.length = n) := ⟨_, hid rfl⟩
  rw [HN1.out, HN2.out] at HEQ ⊢
  rw [HN1.out, HN2.out] at HB
  by_cases ho : o1 = o2
  rotate_left 1
  · have HF : Hid (decide ((⟨o1, s1, d1, c1, p1, k1, q1, b1⟩ : Ev) = ⟨o2, s2, d2, c2, p2, k2, q2, b2⟩) = false) := decide_eq_false (fun h => ho (by injection h))
    rw [HF.out]
    go_enter Try.func22, Try.ntmps22
    go_wp2
    go_ret
    exact ⟨rfl, HB.out⟩
  subst ho
  by_cases hs : s1 = s2
  rotate_left 1
  · have HF : Hid (decide ((⟨o1, s1, d1, c1, p1, k1, q1, b1⟩ : Ev) = ⟨o1, s2, d2, c2, p2, k2, q2, b2⟩) = false) := decide_eq_false (fun h => hs (by injection h))
    rw [HF.out]
    go_enter Try.func22, Try.ntmps22
    go_wp2
    go_ret
    exact ⟨rfl, HB.out⟩
  subst hs
  obtain ⟨r, HR⟩ : ∃ r, Hid (decide (d1 = d2) = r) := ⟨_, hid rfl⟩
  rw [HR.out] at HEQ
  cases r
  · have HF : Hid (decide ((⟨o1, s1, d1, c1, p1, k1, q1, b1⟩ : Ev) = ⟨o1, s1, d2, c2, p2, k2, q2, b2⟩) = false) := decide_eq_false (fun h => of_decide_eq_false HR.out (by injection h))
    rw [HF.out]
    go_enter Try.func22, Try.ntmps22
    go_wp2_with fail
    refine HEQ.out.mono ?_
    rintro e w' ⟨rfl, q, rfl⟩
    go_wp2
    go_ret
    exact ⟨rfl, below_dn HB.out q⟩
  have HDD := hid (of_decide_eq_true HR.out)
  by_cases hc : c1 = c2
  rotate_left 1
  · have HF : Hid (decide ((⟨o1, s1, d1, c1, p1, k1, q1, b1⟩ : Ev) = ⟨o1, s1, d2, c2, p2, k2, q2, b2⟩) = false) := decide_eq_false (fun h => hc (by injection h))
    rw [HF.out]
    have hbb : ¬ c1.toList = c2.toList := fun hh => hc (bytes_inj hh)
    go_enter Try.func22, Try.ntmps22
    go_wp2_with fail
    refine HEQ.out.mono ?_
    rintro e w' ⟨rfl, q, rfl⟩
    go_wp2
    go_ret
    exact ⟨rfl, below_dn HB.out q⟩
  subst hc
  by_cases hp : p1 = p2
  rotate_left 1
  · have HF : Hid (decide ((⟨o1, s1, d1, c1, p1, k1, q1, b1⟩ : Ev) = ⟨o1, s1, d2, c1, p2, k2, q2, b2⟩) = false) := decide_eq_false (fun h => hp (by injection h))
    rw [HF.out]
    go_enter Try.func22, Try.ntmps22
    go_wp2_with fail
    refine HEQ.out.mono ?_
    rintro e w' ⟨rfl, q, rfl⟩
    go_wp2
    go_ret
    exact ⟨rfl, below_dn HB.out q⟩
  subst hp
  by_cases hk : k1 = k2
  rotate_left 1
  · have HF : Hid (decide ((⟨o1, s1, d1, c1, p1, k1, q1, b1⟩ : Ev) = ⟨o1, s1, d2, c1, p1, k2, q2, b2⟩) = false) := decide_eq_false (fun h => hk (by injection h))
    rw [HF.out]
    have hbb : ¬ k1.toList = k2.toList := fun hh => hk (bytes_inj hh)
    go_enter Try.func22, Try.ntmps22
    go_wp2_with fail
    refine HEQ.out.mono ?_
    rintro e w' ⟨rfl, q, rfl⟩
    go_wp2
    go_ret
    exact ⟨rfl, below_dn HB.out q⟩
  subst hk
  by_cases hq : q1 = q2
  rotate_left 1
  · have HF : Hid (decide ((⟨o1, s1, d1, c1, p1, k1, q1, b1⟩ : Ev) = ⟨o1, s1, d2, c1, p1, k1, q2, b2⟩) = false) := decide_eq_false (fun h => hq (by injection h))
    rw [HF.out]
    go_enter Try.func22, Try.ntmps22
    go_wp2_with fail
    refine HEQ.out.mono ?_
    rintro e w' ⟨rfl, q, rfl⟩
    go_wp2
    go_ret
    exact ⟨rfl, below_dn HB.out q⟩
  subst hq
  by_cases hb : b1 = b2
  rotate_left 1
  · have HF : Hid (decide ((⟨o1, s1, d1, c1, p1, k1, q1, b1⟩ : Ev) = ⟨o1, s1, d2, c1, p1, k1, q1, b2⟩) = false) := decide_eq_false (fun h => hb (by injection h))
    rw [HF.out]
    have hbb : (b1 == b2) = false := by simpa using hb
    go_enter Try.func22, Try.ntmps22
    go_wp2_with fail
    refine HEQ.out.mono ?_
    rintro e w' ⟨rfl, q, rfl⟩
    go_wp2
    go_ret
    exact ⟨rfl, below_dn HB.out q⟩
  subst hb
  have HF : Hid (decide ((⟨o1, s1, d1, c1, p1, k1, q1, b1⟩ : Ev) = ⟨o1, s1, d2, c1, p1, k1, q1, b1⟩) = true) := decide_eq_true (by rw [HDD.out])
  rw [HF.out]
  go_enter Try.func22, Try.ntmps22
  go_wp2_with fail
  refine HEQ.out.mono ?_
  rintro e w' ⟨rfl, q, rfl⟩
  go_wp2
  go_ret
  exact ⟨rfl, below_dn HB.out q⟩

/-- Has each dot one event, with a Qty that may be? -/
def RightL (l : List Ev) : Prop := (∀ e ∈ l, 0 ≤ e.qty ∧ e.qty ≤ 1000) ∧ OneEach l
def RightTo (xs : List EvM) (i : Nat) : Prop := ∀ a (ha : a < xs.length), a < i → (0 ≤ xs[a].e.qty ∧ xs[a].e.qty ≤ 1000) ∧ ∀ b (hb : b < xs.length), b < a → xs[b].e.o = xs[a].e.o → xs[b].e.s = xs[a].e.s → xs[b].e = xs[a].e
theorem right_all {xs : List EvM} {n : Nat} (hn : xs.length ≤ n) (h : RightTo xs n) : RightL (xs.map (·.e)) := by
  refine ⟨fun e he => ?_, fun e he f hf h1 h2 => ?_⟩
  · obtain ⟨x, hx, rfl⟩ := List.mem_map.1 he
    obtain ⟨a, ha, rfl⟩ := List.mem_iff_getElem.1 hx
    exact (h a ha (by omega)).1
  · obtain ⟨x, hx, rfl⟩ := List.mem_map.1 he
    obtain ⟨a, ha, rfl⟩ := List.mem_iff_getElem.1 hx
    obtain ⟨y, hy, rfl⟩ := List.mem_map.1 hf
    obtain ⟨b, hb, rfl⟩ := List.mem_iff_getElem.1 hy
    rcases Nat.lt_trichotomy a b with hlt | rfl | hlt
    · exact (h b hb (by omega)).2 a ha hlt h1 h2
    · rfl
    · exact ((h a ha (by omega)).2 b hb hlt h1.symm h2.symm).symm
theorem mem_e {xs : List EvM} {a : Nat} (ha : a < xs.length) : xs[a].e ∈ xs.map (·.e) := List.mem_map.2 ⟨_, List.getElem_mem ha, rfl⟩
/-- What right leaves. -/
def RightP (w : World) (l : List Ev) (e : Ending) (w' : World) : Prop := (∃ r, e = .returned (.bool r) ∧ (r = true ↔ RightL l)) ∧ Below w.heap.size w w'
set_option maxRecDepth 1000000 in
set_option maxHeartbeats 4000000 in
theorem right_any (w : World) (ao : Option Addr) (cap : Nat) (xs : List EvM) (n : Nat) (hn : xs.length = n) (h : HeldE w ao xs) (hl : n ≤ 4194304) :
    Calls Try.prog 10 #[.slice ao n cap] w (RightP w (xs.map (·.e))) := by
  have HN := hid hn
  have H := hid h
  clear hn h
  go_enter Try.func10, Try.ntmps10
  go_wp2
  go_loopw [3] (fun x wr => ∃ i : Nat, i ≤ n ∧ x = .int .i64 i ∧ Hid (RightTo xs i ∧ Below w.heap.size w wr)) (fun x _ => n - (intOf x).toNat)
  case atStart => exact ⟨0, Nat.zero_le _, rfl, fun a _ h => absurd h (Nat.not_lt_zero _), Below.refl _ _⟩
  case round =>
    obtain ⟨i, hi, rfl, HR⟩ := hrel
    by_cases hlt : i < n
    · have hlt' : (i : Int) < (n : Int) := by omega
      have hix : Hid (i < xs.length) := (by rw [HN.out]; exact hlt : i < xs.length)
      obtain ⟨bb, off, hao, hbb, _, _, _, _, _, _, gq, _⟩ := (H.out.below HR.out.2).at hix.out
      subst hao
      have HIM : Hid (i + 1 ≤ n) := (by omega : i + 1 ≤ n)
      obtain ⟨Q, HQ⟩ : ∃ Q, Hid ((xs[i]'hix.out).e.qty = Q) := ⟨_, hid rfl⟩
      rw [HQ.out] at gq
      have HNO : Hid (¬ (0 ≤ Q ∧ Q ≤ 1000) → ¬ RightL (xs.map (·.e))) := fun hq hr => hq (by have := hr.1 _ (mem_e hix.out); rw [HQ.out] at this; exact this)
      by_cases hq0 : Q < 0
      · go_wp2
        go_ret
        exact ⟨⟨false, rfl, by simp; exact HNO.out (by omega)⟩, HR.out.2⟩
      by_cases hq1 : 1000 < Q
      · go_wp2
        go_ret
        exact ⟨⟨false, rfl, by simp; exact HNO.out (by omega)⟩, HR.out.2⟩
      have HQ2 : Hid (0 ≤ Q ∧ Q ≤ 1000) := (by omega : 0 ≤ Q ∧ Q ≤ 1000)
      have hB0 := HR.out.2
      have HB0 := hid hB0
      clear hB0
      go_wp2
      clear gq
      go_loopw [4] (fun x wx => ∃ j : Nat, j ≤ i ∧ x = .int .i64 j ∧ Hid ((∀ b (hb : b < xs.length), b < j → xs[b].e.o = (xs[i]'hix.out).e.o → xs[b].e.s = (xs[i]'hix.out).e.s → xs[b].e = (xs[i]'hix.out).e) ∧ Below w.heap.size w wx)) (fun x _ => i - (intOf x).toNat)
      case atStart => exact ⟨0, Nat.zero_le _, rfl, fun b _ h => absurd h (Nat.not_lt_zero _), HB0.out⟩
      case round =>
        obtain ⟨j, hj, rfl, HJ⟩ := hrel
        by_cases hjl : j < i
        · have hjl' : (j : Int) < (i : Int) := by omega
          have hjx : Hid (j < xs.length) := (by rw [HN.out]; omega : j < xs.length)
          have hjn : (j : Int) < (n : Int) := by omega
          obtain ⟨bb', off', hao1, _, e0, e1, e2, e3, e4, e5, e6, e7⟩ := (H.out.below HJ.out.2).at hjx.out
          cases hao1
          obtain ⟨bb', off', hao2, _, f0, f1, f2, f3, f4, f5, f6, f7⟩ := (H.out.below HJ.out.2).at hix.out
          cases hao2
          have HOJ := hid ((H.out.1 _ (List.getElem_mem hjx.out)).below HJ.out.2)
          have HOI := hid ((H.out.1 _ (List.getElem_mem hix.out)).below HJ.out.2)
          have HJM : Hid (j + 1 ≤ i) := (by omega : j + 1 ≤ i)
          obtain ⟨X, HX⟩ : ∃ X, Hid (xs[j]'hjx.out = X) := ⟨_, hid rfl⟩
          obtain ⟨Y, HY⟩ : ∃ Y, Hid (xs[i]'hix.out = Y) := ⟨_, hid rfl⟩
          rw [HX.out] at e0 e1 e2 e3 e4 e5 e6 e7 HOJ
          rw [HY.out] at f0 f1 f2 f3 f4 f5 f6 f7 HOI
          have HXE : Hid ((xs[j]'hjx.out).e = X.e) := by show _ = _; rw [HX.out]
          have HYE : Hid ((xs[i]'hix.out).e = Y.e) := by show _ = _; rw [HY.out]
          have HSE := hid (fun q => (sameEv_any (wr.drewN q) X Y (HOJ.out.below (below_dn (Below.refl _ _) q)) (HOI.out.below (below_dn (Below.refl _ _) q))))
          clear HX HY HOJ HOI
          obtain ⟨⟨o1, s1, d1, c1, p1, k1, q1, b1⟩, ao1, cap1⟩ := X
          obtain ⟨⟨o2, s2, d2, c2, p2, k2, q2, b2⟩, ao2, cap2⟩ := Y
          simp only [EvM.val] at e0 e1 e2 e3 e4 e5 e6 e7 f0 f1 f2 f3 f4 f5 f6 f7 HSE HXE HYE
          obtain ⟨n1, HN1⟩ : ∃ n, Hid (d1.length = n) := ⟨_, hid rfl⟩
          obtain ⟨n2, HN2⟩ : ∃ n, Hid (d2.length = n) := ⟨_, hid rfl⟩
          rw [HN1.out] at e2
          rw [HN2.out] at f2
          rw [HN1.out, HN2.out] at HSE
          have HNX : Hid (∀ V : World, Below w.heap.size w V → ((o1 = o2 ∧ s1 = s2) → (⟨o1, s1, d1, c1, p1, k1, q1, b1⟩ : Ev) = ⟨o2, s2, d2, c2, p2, k2, q2, b2⟩) → (∀ b (hb : b < xs.length), b < j + 1 → xs[b].e.o = (xs[i]'hix.out).e.o → xs[b].e.s = (xs[i]'hix.out).e.s → xs[b].e = (xs[i]'hix.out).e) ∧ Below w.heap.size w V) := fun V hV hs => by
            refine ⟨fun b hb hlt h1 h2 => ?_, hV⟩
            by_cases e : b = j
            · subst e
              rw [HXE.out, HYE.out] at h1 h2 ⊢
              exact hs ⟨h1, h2⟩
            · exact HJ.out.1 b hb (by omega) h1 h2
          by_cases ho : o1 = o2
          rotate_left 1
          · go_wp2
            go_quiet (fail)
            all_goals
              go_wp2
              go_roundw
              case rel => exact ⟨j + 1, HJM.out, by go_num, HNX.out _ (below_dn HJ.out.2 _) (fun h => absurd h.1 ho)⟩
              case measure => simp [intOf]; have := HJM.out; omega
          subst ho
          by_cases hs : s1 = s2
          rotate_left 1
          · go_wp2
            go_quiet (fail)
            all_goals
              go_wp2
              go_roundw
              case rel => exact ⟨j + 1, HJM.out, by go_num, HNX.out _ (below_dn HJ.out.2 _) (fun h => absurd h.2 hs)⟩
              case measure => simp [intOf]; have := HJM.out; omega
          subst hs
          · have HSC : Hid (Calls Try.prog 22 #[.agg #[.int .i64 o1, .int .i64 s1, .slice ao1 n1 cap1, .string c1, .int .i64 p1, .string k1, .int .i64 q1, .bool b1], .agg #[.int .i64 o1, .int .i64 s1, .slice ao2 n2 cap2, .string c2, .int .i64 p2, .string k2, .int .i64 q2, .bool b2]] wr.drew fun e w' => e = .returned (.bool (decide ((⟨o1, s1, d1, c1, p1, k1, q1, b1⟩ : Ev) = ⟨o1, s1, d2, c2, p2, k2, q2, b2⟩))) ∧ Below wr.heap.size wr w') := (HSE.out 1).mono fun _ _ h => ⟨h.1, below_from_drew h.2⟩
            have HLB : Hid (bb < wr.heap.size) := by
              rcases (H.out.below HJ.out.2).2 with h0 | ⟨b', off', h1, h2, _⟩
              · have := hix.out
                rw [h0] at this
                cases this
              · cases h1
                exact h2
            obtain ⟨r, HRR⟩ : ∃ r, Hid (decide ((⟨o1, s1, d1, c1, p1, k1, q1, b1⟩ : Ev) = ⟨o1, s1, d2, c2, p2, k2, q2, b2⟩) = r) := ⟨_, hid rfl⟩
            rw [HRR.out] at HSC
            cases r
            · have HBAD : Hid (¬ RightL (xs.map (·.e))) := fun hr => of_decide_eq_false HRR.out (by
                have := hr.2 _ (mem_e hjx.out) _ (mem_e hix.out)
                rw [HXE.out, HYE.out] at this
                exact this rfl rfl)
              go_wp2
              go_region_held3 (fun V => V.cell? ⟨bb, off + j * 8, none⟩ = some (.int .i64 o1) ∧ V.cell? ⟨bb, off + j * 8 + 1, none⟩ = some (.int .i64 s1) ∧ V.cell? ⟨bb, off + j * 8 + 2, none⟩ = some (.slice ao1 n1 cap1) ∧ V.cell? ⟨bb, off + j * 8 + 3, none⟩ = some (.string c1) ∧ V.cell? ⟨bb, off + j * 8 + 4, none⟩ = some (.int .i64 p1) ∧ V.cell? ⟨bb, off + j * 8 + 5, none⟩ = some (.string k1) ∧ V.cell? ⟨bb, off + j * 8 + 6, none⟩ = some (.int .i64 q1) ∧ V.cell? ⟨bb, off + j * 8 + 7, none⟩ = some (.bool b1) ∧ V.cell? ⟨bb, off + i * 8, none⟩ = some (.int .i64 o1) ∧ V.cell? ⟨bb, off + i * 8 + 1, none⟩ = some (.int .i64 s1) ∧ V.cell? ⟨bb, off + i * 8 + 2, none⟩ = some (.slice ao2 n2 cap2) ∧ V.cell? ⟨bb, off + i * 8 + 3, none⟩ = some (.string c2) ∧ V.cell? ⟨bb, off + i * 8 + 4, none⟩ = some (.int .i64 p2) ∧ V.cell? ⟨bb, off + i * 8 + 5, none⟩ = some (.string k2) ∧ V.cell? ⟨bb, off + i * 8 + 6, none⟩ = some (.int .i64 q2) ∧ V.cell? ⟨bb, off + i * 8 + 7, none⟩ = some (.bool b2)) (first | (refine ⟨?_, ?_, ?_, ?_, ?_, ?_, ?_, ?_, ?_, ?_, ?_, ?_, ?_, ?_, ?_, ?_⟩ <;> assumption) | go_keep)
                ((go_at_call 22; refine HSC.out.mono ?_; rintro e w5 ⟨rfl, hb5⟩; have HB5 := hid (bt HJ.out.2 hb5); have u0 := (hb5.cell (p := ⟨bb, off + j * 8, none⟩) HLB.out).trans e0; have u1 := (hb5.cell (p := ⟨bb, off + j * 8 + 1, none⟩) HLB.out).trans e1; have u2 := (hb5.cell (p := ⟨bb, off + j * 8 + 2, none⟩) HLB.out).trans e2; have u3 := (hb5.cell (p := ⟨bb, off + j * 8 + 3, none⟩) HLB.out).trans e3; have u4 := (hb5.cell (p := ⟨bb, off + j * 8 + 4, none⟩) HLB.out).trans e4; have u5 := (hb5.cell (p := ⟨bb, off + j * 8 + 5, none⟩) HLB.out).trans e5; have u6 := (hb5.cell (p := ⟨bb, off + j * 8 + 6, none⟩) HLB.out).trans e6; have u7 := (hb5.cell (p := ⟨bb, off + j * 8 + 7, none⟩) HLB.out).trans e7; have v0 := (hb5.cell (p := ⟨bb, off + i * 8, none⟩) HLB.out).trans f0; have v1 := (hb5.cell (p := ⟨bb, off + i * 8 + 1, none⟩) HLB.out).trans f1; have v2 := (hb5.cell (p := ⟨bb, off + i * 8 + 2, none⟩) HLB.out).trans f2; have v3 := (hb5.cell (p := ⟨bb, off + i * 8 + 3, none⟩) HLB.out).trans f3; have v4 := (hb5.cell (p := ⟨bb, off + i * 8 + 4, none⟩) HLB.out).trans f4; have v5 := (hb5.cell (p := ⟨bb, off + i * 8 + 5, none⟩) HLB.out).trans f5; have v6 := (hb5.cell (p := ⟨bb, off + i * 8 + 6, none⟩) HLB.out).trans f6; have v7 := (hb5.cell (p := ⟨bb, off + i * 8 + 7, none⟩) HLB.out).trans f7;  clear hb5))
              all_goals
                go_wp2
                go_ret
                exact ⟨⟨false, rfl, by simp; exact HBAD.out⟩, HB5.out⟩
            · go_wp2
              go_region_held3 (fun V => V.cell? ⟨bb, off + j * 8, none⟩ = some (.int .i64 o1) ∧ V.cell? ⟨bb, off + j * 8 + 1, none⟩ = some (.int .i64 s1) ∧ V.cell? ⟨bb, off + j * 8 + 2, none⟩ = some (.slice ao1 n1 cap1) ∧ V.cell? ⟨bb, off + j * 8 + 3, none⟩ = some (.string c1) ∧ V.cell? ⟨bb, off + j * 8 + 4, none⟩ = some (.int .i64 p1) ∧ V.cell? ⟨bb, off + j * 8 + 5, none⟩ = some (.string k1) ∧ V.cell? ⟨bb, off + j * 8 + 6, none⟩ = some (.int .i64 q1) ∧ V.cell? ⟨bb, off + j * 8 + 7, none⟩ = some (.bool b1) ∧ V.cell? ⟨bb, off + i * 8, none⟩ = some (.int .i64 o1) ∧ V.cell? ⟨bb, off + i * 8 + 1, none⟩ = some (.int .i64 s1) ∧ V.cell? ⟨bb, off + i * 8 + 2, none⟩ = some (.slice ao2 n2 cap2) ∧ V.cell? ⟨bb, off + i * 8 + 3, none⟩ = some (.string c2) ∧ V.cell? ⟨bb, off + i * 8 + 4, none⟩ = some (.int .i64 p2) ∧ V.cell? ⟨bb, off + i * 8 + 5, none⟩ = some (.string k2) ∧ V.cell? ⟨bb, off + i * 8 + 6, none⟩ = some (.int .i64 q2) ∧ V.cell? ⟨bb, off + i * 8 + 7, none⟩ = some (.bool b2)) (first | (refine ⟨?_, ?_, ?_, ?_, ?_, ?_, ?_, ?_, ?_, ?_, ?_, ?_, ?_, ?_, ?_, ?_⟩ <;> assumption) | go_keep)
                ((go_at_call 22; refine HSC.out.mono ?_; rintro e w5 ⟨rfl, hb5⟩; have HB5 := hid (bt HJ.out.2 hb5); have u0 := (hb5.cell (p := ⟨bb, off + j * 8, none⟩) HLB.out).trans e0; have u1 := (hb5.cell (p := ⟨bb, off + j * 8 + 1, none⟩) HLB.out).trans e1; have u2 := (hb5.cell (p := ⟨bb, off + j * 8 + 2, none⟩) HLB.out).trans e2; have u3 := (hb5.cell (p := ⟨bb, off + j * 8 + 3, none⟩) HLB.out).trans e3; have u4 := (hb5.cell (p := ⟨bb, off + j * 8 + 4, none⟩) HLB.out).trans e4; have u5 := (hb5.cell (p := ⟨bb, off + j * 8 + 5, none⟩) HLB.out).trans e5; have u6 := (hb5.cell (p := ⟨bb, off + j * 8 + 6, none⟩) HLB.out).trans e6; have u7 := (hb5.cell (p := ⟨bb, off + j * 8 + 7, none⟩) HLB.out).trans e7; have v0 := (hb5.cell (p := ⟨bb, off + i * 8, none⟩) HLB.out).trans f0; have v1 := (hb5.cell (p := ⟨bb, off + i * 8 + 1, none⟩) HLB.out).trans f1; have v2 := (hb5.cell (p := ⟨bb, off + i * 8 + 2, none⟩) HLB.out).trans f2; have v3 := (hb5.cell (p := ⟨bb, off + i * 8 + 3, none⟩) HLB.out).trans f3; have v4 := (hb5.cell (p := ⟨bb, off + i * 8 + 4, none⟩) HLB.out).trans f4; have v5 := (hb5.cell (p := ⟨bb, off + i * 8 + 5, none⟩) HLB.out).trans f5; have v6 := (hb5.cell (p := ⟨bb, off + i * 8 + 6, none⟩) HLB.out).trans f6; have v7 := (hb5.cell (p := ⟨bb, off + i * 8 + 7, none⟩) HLB.out).trans f7;  clear hb5))
              all_goals
                go_wp2
                go_roundw
                case rel => exact ⟨j + 1, HJM.out, by go_num, HNX.out _ HB5.out (fun _ => of_decide_eq_true HRR.out)⟩
                case measure => simp [intOf]; have := HJM.out; omega
        · have hjl' : ¬ (j : Int) < (i : Int) := by omega
          obtain rfl : j = i := by omega
          go_wp2
          go_roundw
          case rel =>
            refine ⟨j + 1, HIM.out, by go_num, fun a ha hlt => ?_, HJ.out.2⟩
            by_cases e : a = j
            · subst e
              exact ⟨by rw [HQ.out]; exact HQ2.out, fun b hb hba h1 h2 => HJ.out.1 b hb hba h1 h2⟩
            · exact HR.out.1 a ha (by omega)
          case measure => simp [intOf]; have := HIM.out; omega
    · have hlt' : ¬ (i : Int) < (n : Int) := by omega
      obtain rfl : i = n := by omega
      go_wp2
      go_ret
      exact ⟨⟨true, rfl, by simp; exact right_all (by rw [HN.out]; exact Nat.le_refl _) HR.out.1⟩, HR.out.2⟩
end Go.Proofs.Ytdfdgijaekhioaa
