/-
  pannierref25.Right: may sights and tokens be?
-/
import Derived.Test.YtfjmhfbmphdjiaaLnT
namespace Go.Proofs.Ytfjmhfbmphdjiaa
open Go.RowKit Go.Maps

/-- May sights and tokens be? -/
def RightP (xs : List Sn) (ts : List ByteArray) : Prop := AllMay xs ∧ ts.Nodup
open Classical in
noncomputable def rightQ (xs : List Sn) (ts : List ByteArray) : Bool := decide (RightP xs ts)
theorem rightQ_iff {xs : List Sn} {ts : List ByteArray} : rightQ xs ts = true ↔ RightP xs ts := by
  classical
  unfold rightQ
  exact decide_eq_true_iff
def MayTo1 (xs : List Sn) (k : Nat) : Prop := ∀ j (hj : j < xs.length), j < k → mayS xs[j] = true
/-- Among the first i tokens none stands twice; token i is none of the first k. -/
def OneTo (ts : List ByteArray) (i : Nat) : Prop := (ts.take i).Nodup
def OneTo2 (ts : List ByteArray) (i k : Nat) : Prop := ∀ j, j < k → ts.getD j ByteArray.empty ≠ ts.getD i ByteArray.empty
theorem OneTo.next {ts : List ByteArray} {i : Nat} (hi : i < ts.length) (h : OneTo ts i) (h2 : OneTo2 ts i i) : OneTo ts (i + 1) := by
  unfold OneTo at *
  rw [List.take_succ_eq_append_getElem hi]
  refine nodup_snoc.2 ⟨h, fun hm => ?_⟩
  obtain ⟨j, hj, he⟩ := List.mem_iff_getElem.1 hm
  rw [List.length_take] at hj
  rw [List.getElem_take] at he
  refine h2 j (by omega) ?_
  simp [List.getD, List.getElem?_eq_getElem hi, List.getElem?_eq_getElem (show j < ts.length by omega), he]
theorem not_nodup {ts : List ByteArray} {i k : Nat} (hi : i < ts.length) (hk : k < i) (h : ts.getD k ByteArray.empty = ts.getD i ByteArray.empty) : ¬ ts.Nodup := by
  intro hn
  have := List.pairwise_iff_getElem.1 hn k i (by omega) hi hk
  simp [List.getD, List.getElem?_eq_getElem hi, List.getElem?_eq_getElem (show k < ts.length by omega)] at h
  exact this h
def RightIs (xs : List Sn) (ts : List ByteArray) (z : Bool) : Prop := z = true ↔ RightP xs ts
theorem RightIs.noSn {xs : List Sn} {ts : List ByteArray} {z : Bool} (h : RightIs xs ts z) {k : Nat} (hk : k < xs.length) (hm : mayS xs[k] = false) : z = false := by
  cases hz : z with
  | false => rfl
  | true =>
    have := (h.1 hz).1 _ (List.getElem_mem hk)
    rw [hm] at this
    cases this
theorem RightIs.noTk {xs : List Sn} {ts : List ByteArray} {z : Bool} (h : RightIs xs ts z) (hn : ¬ ts.Nodup) : z = false := by
  cases hz : z with
  | false => rfl
  | true => exact absurd (h.1 hz).2 hn
theorem mayS_bad {s : Sn} (h : s.b < 1 ∨ 4611686018427387904 ≤ s.b ∨ 4611686018427387904 ≤ s.e ∨ (s.e ≠ 0 ∧ s.e < s.b) ∨ s.id < 0 ∨ (s.e = 0 ∧ s.id ≠ 0)) : mayS s = false := by
  cases hz : mayS s with
  | false => rfl
  | true =>
    have := mayS_iff.1 hz
    unfold MT at this
    omega
theorem mayS_good {s : Sn} (h1 : ¬ s.b < 1) (h2 : ¬ 4611686018427387904 ≤ s.b) (h3 : ¬ 4611686018427387904 ≤ s.e) (h4 : ¬ (s.e ≠ 0 ∧ s.e < s.b)) (h5 : ¬ s.id < 0) (h6 : ¬ (s.e = 0 ∧ s.id ≠ 0)) : mayS s = true := by
  refine mayS_iff.2 ?_
  unfold MT
  omega
theorem MayTo1.next {xs : List Sn} {k : Nat} (h : MayTo1 xs k) (hk : k < xs.length) (hm : mayS xs[k] = true) : MayTo1 xs (k + 1) := fun j hj hjk => by
  by_cases e : j = k
  · subst e; exact hm
  · exact h j hj (by omega)
attribute [local go_sem] undef
set_option maxRecDepth 100000 in
set_option maxHeartbeats 400000 in
theorem right_any (w : World) (lo : Option Addr) (lc : Nat) (xs : List Sn) (n : Nat) (hn : xs.length = n) (hx : HeldSn w lo xs) (hlx : n ≤ 2932031007402) (ao : Option Addr) (cap : Nat) (ts : List ByteArray) (m : Nat) (hm : ts.length = m) (h : HeldStr w ao ts) (hl : m ≤ 8796093022208) :
    Calls Try.prog 8 #[.slice lo n lc, .slice ao m cap] w (SaysB w (rightQ xs ts)) := by
  obtain ⟨Z, HZ⟩ : ∃ z, Hid (rightQ xs ts = z) := ⟨_, hid rfl⟩
  rw [HZ.out]
  have HI : Hid (RightIs xs ts Z) := by rw [← HZ.out]; exact rightQ_iff
  have H := hid hx
  have HT := hid h
  have HN := hid hn
  have HM := hid hm
  have HLX := hid hlx
  have HLM := hid hl
  clear hx h hn hm hlx hl HZ
  go_enter Try.func8, Try.ntmps8
  go_wp2
  go_loopw [5] (fun s5 wr => ∃ k : Nat, k ≤ n ∧ s5 = .int .i64 k ∧ Hid (Below w.heap.size w wr ∧ MayTo1 xs k)) (fun s5 _ => n - (intOf s5).toNat)
  case atStart => exact ⟨0, Nat.zero_le _, rfl, Below.refl _ _, fun j _ h => (by omega)⟩
  case round =>
    obtain ⟨k, hk, rfl, HR⟩ := hrel
    by_cases hlt : k < n
    · have hlt' : (k : Int) < (n : Int) := by omega
      have HKM : Hid (k + 1 ≤ n) := (by omega : k + 1 ≤ n)
      have HKX : Hid (k < xs.length) := by rw [HN.out]; exact hlt
      have hwk : wrap64 ((k : Int) + 1) = (k : Int) + 1 := wrapS (by omega) (by have := HLX.out; omega)
      obtain ⟨b1, o1, hao, _, g0, g1, g2, g3, g4⟩ := (H.out.below HR.out.1).at HKX.out
      obtain ⟨X, HX⟩ : ∃ X, Hid (xs[k]'HKX.out = X) := ⟨_, hid rfl⟩
      rw [HX.out] at g0 g1 g2 g3 g4
      have HBAD : Hid (mayS X = false → Z = false) := fun hh => HI.out.noSn HKX.out (by rw [HX.out]; exact hh)
      have HGD : Hid (mayS X = true → MayTo1 xs (k + 1)) := fun hh => HR.out.2.next HKX.out (by rw [HX.out]; exact hh)
      obtain ⟨co, tok, sb, se, id⟩ := X
      simp only at g0 g1 g2 g3 g4
      have HRB := hid HR.out.1
      clear HX HR hlt g0 g1
      subst hao
      by_cases c1 : sb < 1
      · have HF : Hid (Z = false) := HBAD.out (mayS_bad (.inl c1))
        clear HBAD HGD
        have d1 : decide (sb < 1) = true := decide_eq_true c1
        clear c1
        go_wp2
        (try dsimp only [List.append])
        go_big_quiet (fail)
        go_wp2
        go_ret
        exact ⟨by rw [HF.out]; rfl, below_dn HRB.out _⟩
      · have d1 : decide (sb < 1) = false := decide_eq_false c1
        by_cases c2 : 4611686018427387904 ≤ sb
        · have HF : Hid (Z = false) := HBAD.out (mayS_bad (.inr (.inl c2)))
          clear HBAD HGD
          have d2 : decide (4611686018427387904 ≤ sb) = true := decide_eq_true c2
          clear c1 c2
          go_wp2
          (try dsimp only [List.append])
          go_big_quiet (fail)
          go_wp2
          go_ret
          exact ⟨by rw [HF.out]; rfl, below_dn HRB.out _⟩
        · have d2 : decide (4611686018427387904 ≤ sb) = false := decide_eq_false c2
          by_cases c3 : 4611686018427387904 ≤ se
          · have HF : Hid (Z = false) := HBAD.out (mayS_bad (.inr (.inr (.inl c3))))
            clear HBAD HGD
            have d3 : decide (4611686018427387904 ≤ se) = true := decide_eq_true c3
            clear c1 c2 c3
            go_wp2
            (try dsimp only [List.append])
            go_big_quiet (fail)
            go_wp2
            go_ret
            exact ⟨by rw [HF.out]; rfl, below_dn HRB.out _⟩
          · have d3 : decide (4611686018427387904 ≤ se) = false := decide_eq_false c3
            by_cases c4 : se = 0
            · by_cases c5 : id < 0
              · have HF : Hid (Z = false) := HBAD.out (mayS_bad (.inr (.inr (.inr (.inr (.inl c5))))))
                clear HBAD HGD
                have d5 : decide (id < 0) = true := decide_eq_true c5
                subst c4
                clear c1 c2 c3 c5 d3
                go_wp2
                (try dsimp only [List.append])
                go_big_quiet (fail)
                go_wp2
                go_ret
                exact ⟨by rw [HF.out]; rfl, below_dn HRB.out _⟩
              · have d5 : decide (id < 0) = false := decide_eq_false c5
                by_cases c6 : id = 0
                · have HG : Hid (MayTo1 xs (k + 1)) := HGD.out (mayS_good c1 c2 c3 (fun h => h.1 c4) c5 (fun h => h.2 c6))
                  clear HBAD HGD
                  subst c4 c6
                  clear c1 c2 c3 c5 d3 d5
                  go_wp2
                  (try dsimp only [List.append])
                  go_big_quiet (fail)
                  go_wp2
                  go_roundw
                  case rel => exact ⟨k + 1, HKM.out, by go_num, below_dn HRB.out _, HG.out⟩
                  case measure => first | exact measWS HKM.out hwk | exact meas1S HKM.out
                · have HF : Hid (Z = false) := HBAD.out (mayS_bad (.inr (.inr (.inr (.inr (.inr ⟨c4, c6⟩))))))
                  clear HBAD HGD
                  have d6 : (id != 0) = true := bne_iff_ne.2 c6
                  subst c4
                  clear c1 c2 c3 c5 c6 d3
                  go_wp2
                  (try dsimp only [List.append])
                  go_big_quiet (fail)
                  go_wp2
                  go_ret
                  exact ⟨by rw [HF.out]; rfl, below_dn HRB.out _⟩
            · have d4 : (se != 0) = true := bne_iff_ne.2 c4
              have d4b : (se == 0) = false := beq_eq_false_iff_ne.2 c4
              by_cases c7 : se < sb
              · have HF : Hid (Z = false) := HBAD.out (mayS_bad (.inr (.inr (.inr (.inl ⟨c4, c7⟩)))))
                clear HBAD HGD
                have d7 : decide (se < sb) = true := decide_eq_true c7
                clear c1 c2 c3 c4 c7
                go_wp2
                (try dsimp only [List.append])
                go_big_quiet (fail)
                go_wp2
                go_ret
                exact ⟨by rw [HF.out]; rfl, below_dn HRB.out _⟩
              · have d7 : decide (se < sb) = false := decide_eq_false c7
                by_cases c5 : id < 0
                · have HF : Hid (Z = false) := HBAD.out (mayS_bad (.inr (.inr (.inr (.inr (.inl c5))))))
                  clear HBAD HGD
                  have d5 : decide (id < 0) = true := decide_eq_true c5
                  clear c1 c2 c3 c4 c5 c7
                  go_wp2
                  (try dsimp only [List.append])
                  go_big_quiet (fail)
                  go_wp2
                  go_ret
                  exact ⟨by rw [HF.out]; rfl, below_dn HRB.out _⟩
                · have d5 : decide (id < 0) = false := decide_eq_false c5
                  have HG : Hid (MayTo1 xs (k + 1)) := HGD.out (mayS_good c1 c2 c3 (fun h => c7 h.2) c5 (fun h => c4 h.1))
                  clear HBAD HGD
                  clear c1 c2 c3 c4 c5 c7
                  go_wp2
                  (try dsimp only [List.append])
                  go_big_quiet (fail)
                  go_wp2
                  go_roundw
                  case rel => exact ⟨k + 1, HKM.out, by go_num, below_dn HRB.out _, HG.out⟩
                  case measure => first | exact measWS HKM.out hwk | exact meas1S HKM.out
    · have hlt' : ¬ (k : Int) < (n : Int) := by omega
      have HAM : Hid (AllMay xs) := fun x hx => by
        obtain ⟨j, hj, rfl⟩ := List.mem_iff_getElem.1 hx
        exact HR.out.2 j hj (by have := HN.out; omega)
      have HRB := hid HR.out.1
      clear HR
      go_wp2
      go_loopw [6, 7] (fun s6 _ wq => ∃ i : Nat, i ≤ m ∧ s6 = .int .i64 i ∧ Hid (Below w.heap.size w wq ∧ OneTo ts i)) (fun s6 _ _ => m - (intOf s6).toNat)
      case atStart => exact ⟨0, Nat.zero_le _, rfl, HRB.out, List.nodup_nil⟩
      case round =>
        obtain ⟨i, hi, rfl, HQ⟩ := hrel
        obtain ⟨wA, rfl⟩ : ∃ V, V = wr := ⟨_, rfl⟩
        by_cases hil : i < m
        · have hil' : (i : Int) < (m : Int) := by omega
          have HIM : Hid (i + 1 ≤ m) := (by omega : i + 1 ≤ m)
          have HIX : Hid (i < ts.length) := by rw [HM.out]; exact hil
          have hwi : wrap64 ((i : Int) + 1) = (i : Int) + 1 := wrapS (by omega) (by have := HLM.out; omega)
          have HQ2 := hid HQ.out.2
          have HQB := hid HQ.out.1
          clear HQ
          obtain ⟨T, HTI⟩ : ∃ T, Hid (ts.getD i ByteArray.empty = T) := ⟨_, hid rfl⟩
          go_wp2
          go_loopw [7] (fun s7 wq => ∃ k : Nat, k ≤ i ∧ s7 = .int .i64 k ∧ Hid (Below w.heap.size w wq ∧ OneTo2 ts i k)) (fun s7 _ => i - (intOf s7).toNat)
          case atStart => exact ⟨0, Nat.zero_le _, rfl, HQB.out, fun j h => (by omega)⟩
          case round =>
            obtain ⟨j, hj, rfl, HS⟩ := hrel
            by_cases hjl : j < i
            · have hjl' : (j : Int) < (i : Int) := by omega
              have hjm' : (j : Int) < (m : Int) := by omega
              have HJM : Hid (j + 1 ≤ i) := (by omega : j + 1 ≤ i)
              have HJX : Hid (j < ts.length) := by have := HIX.out; show _ < _; omega
              have hwj : wrap64 ((j : Int) + 1) = (j : Int) + 1 := wrapS (by omega) (by have := HLM.out; omega)
              obtain ⟨b1, o1, hao, _, gj⟩ := (HT.out.below HS.out.1).at HJX.out
              obtain ⟨b1', o1', hao', _, gi⟩ := (HT.out.below HS.out.1).at HIX.out
              subst hao
              cases hao'
              obtain ⟨U, HU⟩ : ∃ U, Hid (ts.getD j ByteArray.empty = U) := ⟨_, hid rfl⟩
              rw [HU.out] at gj
              rw [HTI.out] at gi
              have HSB := hid HS.out.1
              by_cases he : U = T
              · have HF : Hid (Z = false) := HI.out.noTk (not_nodup HIX.out hjl (by rw [HU.out, HTI.out]; exact he))
                subst he
                clear HS
                go_wp2
                (try dsimp only [List.append])
                go_big_quiet (fail)
                go_wp2
                go_ret
                exact ⟨by rw [HF.out]; rfl, below_dn HSB.out _⟩
              · have HG : Hid (OneTo2 ts i (j + 1)) := fun q hq => by
                  by_cases e : q = j
                  · subst e
                    rw [HU.out, HTI.out]
                    exact he
                  · exact HS.out.2 q (by omega)
                have hb1 : ¬ U.toList = T.toList := fun hh => he (bytes_injS hh)
                have hb2 : (U.toList == T.toList) = false := beq_eq_false_iff_ne.2 hb1
                clear HS he
                go_wp2
                (try dsimp only [List.append])
                go_big_quiet (fail)
                go_wp2
                go_roundw
                case rel => exact ⟨j + 1, HJM.out, by go_num, below_dn HSB.out _, HG.out⟩
                case measure => first | exact measWS HJM.out hwj | exact meas1S HJM.out
            · have hjl' : ¬ (j : Int) < (i : Int) := by omega
              have HG : Hid (OneTo ts (i + 1)) := by
                refine HQ2.out.next HIX.out ?_
                have : j = i := by omega
                subst this
                exact HS.out.2
              have HSB := hid HS.out.1
              clear HS
              go_wp2
              go_roundw
              case rel => exact ⟨i + 1, HIM.out, by go_num, HSB.out, HG.out⟩
              case measure => first | exact measWS HIM.out hwi | exact meas1S HIM.out
        · have hil' : ¬ (i : Int) < (m : Int) := by omega
          have HF : Hid (Z = true) := HI.out.2 ⟨HAM.out, by
            have := HQ.out.2
            unfold OneTo at this
            rw [List.take_of_length_le (by have := HM.out; omega)] at this
            exact this⟩
          have HQB := hid HQ.out.1
          clear HQ
          go_wp2
          go_ret
          exact ⟨by rw [HF.out]; rfl, HQB.out⟩
end Go.Proofs.Ytfjmhfbmphdjiaa
