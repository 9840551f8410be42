/-
  Package cut: Open, Order; the document's Same of lines that tell the same; once.
-/
import Derived.Test.YtkgfpnmifgifpaaSealD
import Derived.Deep.QuietTactic
import Derived.BigQuiet
namespace Go.Proofs.Ytkgfpnmifgifpaa
open Go.RowKit Go.Maps

theorem cutOpen_any (w : World) (ao so : Option Addr) (ca cs : Nat) (xs : List EvM) (ss : List SlM) (n m : Nat) (hn : xs.length = n) (hm : ss.length = m) (h : HeldE w ao xs) (hs : HeldSl w so ss) (hl : n ≤ 4194304) (hls : m ≤ 100000000) (hd : ∀ x ∈ xs, x.e.deps.length ≤ 1048576) (hq : ∀ x ∈ xs, 0 ≤ x.e.qty ∧ x.e.qty ≤ 1000) (name : ByteArray) {f : ByteArray → Int} (hf : linesQ name ((pickL name ss (fun _ i => !i) xs).map (·.e)) = f) :
    Calls Try.prog 21 #[.slice ao n ca, .slice so m cs, .string name] w (LinesP w f) := by
  have HL := hid (openLines_any w ao so ca cs xs ss n m hn hm h hs hl hls hd hq name hf)
  clear hn hm h hs hd hq hf
  go_enter Try.func21, Try.ntmps21
  go_wp2_with fail
  refine HL.out.mono ?_
  rintro e w1 ⟨lo, ln, lc, rfl, hat, hb⟩
  have HAT := hid hat
  have HB := hid hb
  clear hat hb HL
  go_wp2
  go_ret
  exact ⟨_, _, _, rfl, HAT.out, HB.out⟩
theorem cutOrder_any (w : World) (ao so : Option Addr) (ca cs : Nat) (xs : List EvM) (ss : List SlM) (n m : Nat) (hn : xs.length = n) (hm : ss.length = m) (h : HeldE w ao xs) (hs : HeldSl w so ss) (hl : n ≤ 4194304) (hls : m ≤ 100000000) (hd : ∀ x ∈ xs, x.e.deps.length ≤ 1048576) (hq : ∀ x ∈ xs, 0 ≤ x.e.qty ∧ x.e.qty ≤ 1000) (name : ByteArray) (q : Int) {f : ByteArray → Int} (hf : linesQ name ((pickL name ss (fun a i => i && decide (a = q)) xs).map (·.e)) = f) :
    Calls Try.prog 19 #[.slice ao n ca, .slice so m cs, .string name, .int .i64 q] w (LinesP w f) := by
  obtain ⟨W, hW⟩ : ∃ W, W = w.alloc (.cells #[.int .i64 q] 3) := ⟨_, rfl⟩
  have HB : Hid (Below w.heap.size w W) := by rw [hW]; exact (Below.refl _ _).alloc (Nat.le_refl _) _
  have hk : Blk W w.heap.size 3 [.int .i64 q] := by rw [hW]; exact Blk.new w _ _
  have HL := hid (orderLines_any W ao so ca cs xs ss n m hn hm (h.below HB.out) (hs.below HB.out) hl hls hd hq name q w.heap.size (hk.cell (i := 0) rfl) hk.lt hf)
  have HW := hid hW
  clear hn hm h hs hd hq hf hk hW
  go_enter Try.func19, Try.ntmps19
  go_wp2_with fail
  rw [← HW.out]
  refine HL.out.mono ?_
  rintro e w1 ⟨lo, ln, lc, rfl, hat, hb⟩
  have HAT := hid hat
  have HB1 := hid (bt HB.out hb)
  clear hat hb HL
  go_wp2
  go_ret
  exact ⟨_, _, _, rfl, HAT.out, HB1.out⟩
set_option maxRecDepth 100000 in
set_option maxHeartbeats 1000000 in
/-- pannierref11.Same of the same lines. -/
theorem rsame_any (w : World) (ao bo : Option Addr) (ca cb : Nat) (ls : List Ln) (n : Nat) (hn : ls.length = n) (ha : HeldL w ao ls) (hb : HeldL w bo ls) (hl : n ≤ 4194304) :
    Calls Try.prog 18 #[.slice ao n ca, .slice bo n cb] w fun e w' => e = .returned (.bool true) ∧ ∃ q, w' = w.drewN q := by
  have HN := hid hn
  have HA := hid ha
  have HBB := hid hb
  clear hn ha hb
  go_enter Try.func18, Try.ntmps18
  go_wp2
  go_loopw [5] (fun x wr => ∃ i : Nat, i ≤ n ∧ x = .int .i64 i ∧ Hid (∃ q, wr = w.drewN q)) (fun x _ => n - (intOf x).toNat)
  case atStart => exact ⟨0, Nat.zero_le _, rfl, 0, rfl⟩
  case round =>
    obtain ⟨i, hi, rfl, HQ⟩ := hrel
    by_cases hlt : i < n
    · have hlt' : (i : Int) < (n : Int) := by omega
      have hix : Hid (i < ls.length) := (by rw [HN.out]; exact hlt : i < ls.length)
      have HIM : Hid (i + 1 ≤ n) := (by omega : i + 1 ≤ n)
      have hbw : Below w.heap.size w wr := by obtain ⟨q, rfl⟩ := HQ.out; exact below_dn (Below.refl _ _) q
      obtain ⟨g1, f1, hao, e0, e1⟩ := (HA.out.below hbw).at hix.out
      obtain ⟨g2, f2, hbo, r0, r1⟩ := (HBB.out.below hbw).at hix.out
      subst hao hbo
      clear hbw
      obtain ⟨X, HX⟩ : ∃ X, Hid (ls[i]'hix.out = X) := ⟨_, hid rfl⟩
      rw [HX.out] at e0 e1 r0 r1
      obtain ⟨s, z⟩ := X
      simp only at e0 e1 r0 r1
      clear HX
      go_wp2
      go_quiet (fail)
      all_goals
        go_wp2
        go_roundw
        case rel =>
          refine ⟨i + 1, HIM.out, by go_num, ?_⟩
          obtain ⟨q, hq⟩ := HQ.out
          show ∃ _, _
          rw [hq]
          exact ⟨_, drewN_add _ _ _⟩
        case measure => simp [intOf]; have := HIM.out; omega
    · have hlt' : ¬ (i : Int) < (n : Int) := by omega
      go_wp2
      go_ret
      exact ⟨rfl, HQ.out⟩
theorem rsame_at {f : ByteArray → Int} {V : World} {lo ro : Option Addr} {ln rn : Nat} (lc rc : Nat) (h : LinesAt f V lo ln) (h' : LinesAt f V ro rn) :
    Calls Try.prog 18 #[.slice lo ln lc, .slice ro rn rc] V fun e w' => e = .returned (.bool true) ∧ ∃ q, w' = V.drewN q := by
  obtain ⟨ls, h1, h2, h3, h4⟩ := h
  obtain ⟨rs, g1, g2, g3, g4⟩ := h'
  obtain rfl := linesOf_unique h1 g1 (fun _ => rfl)
  obtain rfl : ln = rn := by rw [← h2, ← g2]
  exact rsame_any V lo ro lc rc ls ln h2 h4 g4 h3
/-- Each dot has one event, with a Qty that may be. -/
def OnceL (l : List Ev) : Prop := (∀ e ∈ l, 0 ≤ e.qty ∧ e.qty ≤ 1000) ∧ l.Pairwise (fun e f => ¬ (e.o = f.o ∧ e.s = f.s))
def OnceTo (xs : List EvM) (i : Nat) : Prop := ∀ a (ha : a < xs.length), a < i → (0 ≤ xs[a].e.qty ∧ xs[a].e.qty ≤ 1000) ∧ ∀ b (hb : b < xs.length), b < a → ¬ (xs[b].e.o = xs[a].e.o ∧ xs[b].e.s = xs[a].e.s)
theorem once_all {xs : List EvM} {i : Nat} (hi : xs.length ≤ i) (h : OnceTo xs i) : OnceL (xs.map (·.e)) := by
  constructor
  · intro e he
    obtain ⟨x, hx, rfl⟩ := List.mem_map.1 he
    obtain ⟨a, ha, rfl⟩ := List.mem_iff_getElem.1 hx
    exact (h a ha (by omega)).1
  · rw [List.pairwise_map, List.pairwise_iff_getElem]
    intro b a hb ha hba
    exact (h a ha (by omega)).2 b hb hba
theorem OnceL.one {l : List Ev} (h : OnceL l) : OneEach l := by
  intro e he f hf h1 h2
  obtain ⟨a, ha, rfl⟩ := List.mem_iff_getElem.1 he
  obtain ⟨b, hb, rfl⟩ := List.mem_iff_getElem.1 hf
  have hp := List.pairwise_iff_getElem.1 h.2
  rcases Nat.lt_trichotomy a b with hab | hab | hab
  · exact absurd ⟨h1, h2⟩ (hp a b ha hb hab)
  · subst hab
    rfl
  · exact absurd ⟨h1.symm, h2.symm⟩ (hp b a hb ha hab)
def OnceP (w : World) (l : List Ev) (e : Ending) (w' : World) : Prop := (∃ r : Bool, e = .returned (.bool r) ∧ (r = true → OnceL l)) ∧ Below w.heap.size w w'
set_option maxRecDepth 1000000 in
set_option maxHeartbeats 4000000 in
theorem once_any (w : World) (ao : Option Addr) (cap : Nat) (xs : List EvM) (n : Nat) (hn : xs.length = n) (h : HeldE w ao xs) (hl : n ≤ 4194304) :
    Calls Try.prog 13 #[.slice ao n cap] w (OnceP w (xs.map (·.e))) := by
  have HN := hid hn
  have H := hid h
  clear hn h
  go_enter Try.func13, Try.ntmps13
  go_wp2
  go_loopw [3] (fun x wr => ∃ i : Nat, i ≤ n ∧ x = .int .i64 i ∧ Hid (OnceTo xs i ∧ Below w.heap.size w wr)) (fun x _ => n - (intOf x).toNat)
  case atStart => exact ⟨0, Nat.zero_le _, rfl, fun a _ h => absurd h (Nat.not_lt_zero _), Below.refl _ _⟩
  case round =>
    obtain ⟨i, hi, rfl, HR⟩ := hrel
    by_cases hlt : i < n
    · have hlt' : (i : Int) < (n : Int) := by omega
      have hix : Hid (i < xs.length) := (by rw [HN.out]; exact hlt : i < xs.length)
      obtain ⟨bb, off, hao, hbb, _, _, _, _, _, _, gq, _⟩ := (H.out.below HR.out.2).at hix.out
      subst hao
      have HIM : Hid (i + 1 ≤ n) := (by omega : i + 1 ≤ n)
      obtain ⟨Q, HQ⟩ : ∃ Q, Hid ((xs[i]'hix.out).e.qty = Q) := ⟨_, hid rfl⟩
      rw [HQ.out] at gq
      by_cases hq0 : Q < 0
      · go_wp2
        go_ret
        exact ⟨⟨false, rfl, by simp⟩, HR.out.2⟩
      by_cases hq1 : 1000 < Q
      · go_wp2
        go_ret
        exact ⟨⟨false, rfl, by simp⟩, HR.out.2⟩
      have HQ2 : Hid (0 ≤ Q ∧ Q ≤ 1000) := (by omega : 0 ≤ Q ∧ Q ≤ 1000)
      have HB0 := hid HR.out.2
      go_wp2
      clear gq
      go_loopw [4] (fun x wx => ∃ j : Nat, j ≤ i ∧ x = .int .i64 j ∧ Hid ((∀ b (hb : b < xs.length), b < j → ¬ (xs[b].e.o = (xs[i]'hix.out).e.o ∧ xs[b].e.s = (xs[i]'hix.out).e.s)) ∧ Below w.heap.size w wx)) (fun x _ => i - (intOf x).toNat)
      case atStart => exact ⟨0, Nat.zero_le _, rfl, fun b _ h => absurd h (Nat.not_lt_zero _), HB0.out⟩
      case round =>
        obtain ⟨j, hj, rfl, HJ⟩ := hrel
        by_cases hjl : j < i
        · have hjl' : (j : Int) < (i : Int) := by omega
          have hjx : Hid (j < xs.length) := (by rw [HN.out]; omega : j < xs.length)
          have hjn : (j : Int) < (n : Int) := by omega
          obtain ⟨bb', off', hao1, _, e0, e1, _⟩ := (H.out.below HJ.out.2).at hjx.out
          cases hao1
          obtain ⟨bb', off', hao2, _, f0, f1, _⟩ := (H.out.below HJ.out.2).at hix.out
          cases hao2
          have HJM : Hid (j + 1 ≤ i) := (by omega : j + 1 ≤ i)
          obtain ⟨o1, HO1⟩ : ∃ o, Hid ((xs[j]'hjx.out).e.o = o) := ⟨_, hid rfl⟩
          obtain ⟨s1, HS1⟩ : ∃ o, Hid ((xs[j]'hjx.out).e.s = o) := ⟨_, hid rfl⟩
          obtain ⟨o2, HO2⟩ : ∃ o, Hid ((xs[i]'hix.out).e.o = o) := ⟨_, hid rfl⟩
          obtain ⟨s2, HS2⟩ : ∃ o, Hid ((xs[i]'hix.out).e.s = o) := ⟨_, hid rfl⟩
          rw [HO1.out] at e0
          rw [HS1.out] at e1
          rw [HO2.out] at f0
          rw [HS2.out] at f1
          have HNX : Hid (∀ V : World, Below w.heap.size w V → ¬ (o1 = o2 ∧ s1 = s2) → (∀ b (hb : b < xs.length), b < j + 1 → ¬ (xs[b].e.o = (xs[i]'hix.out).e.o ∧ xs[b].e.s = (xs[i]'hix.out).e.s)) ∧ Below w.heap.size w V) := fun V hV hs => by
            refine ⟨fun b hb hlt h1 => ?_, hV⟩
            by_cases e : b = j
            · subst e
              rw [HO1.out, HO2.out, HS1.out, HS2.out] at h1
              exact hs h1
            · exact HJ.out.1 b hb (by omega) h1
          by_cases ho : o1 = o2
          rotate_left 1
          · go_wp2
            go_quiet (fail)
            all_goals
              go_wp2
              go_roundw
              case rel => exact ⟨j + 1, HJM.out, by go_num, HNX.out _ (below_dn HJ.out.2 _) (fun h => ho h.1)⟩
              case measure => simp [intOf]; have := HJM.out; omega
          subst ho
          by_cases hs : s1 = s2
          rotate_left 1
          · go_wp2
            go_quiet (fail)
            all_goals
              go_wp2
              go_roundw
              case rel => exact ⟨j + 1, HJM.out, by go_num, HNX.out _ (below_dn HJ.out.2 _) (fun h => hs h.2)⟩
              case measure => simp [intOf]; have := HJM.out; omega
          subst hs
          go_wp2
          go_quiet (fail)
          all_goals
            go_wp2
            go_ret
            exact ⟨⟨false, rfl, by simp⟩, below_dn HJ.out.2 _⟩
        · have hjl' : ¬ (j : Int) < (i : Int) := by omega
          obtain rfl : j = i := by omega
          go_wp2
          go_roundw
          case rel =>
            refine ⟨j + 1, HIM.out, by go_num, fun a ha hlt => ?_, HJ.out.2⟩
            by_cases e : a = j
            · subst e
              exact ⟨by rw [HQ.out]; exact HQ2.out, fun b hb hba => HJ.out.1 b hb hba⟩
            · exact HR.out.1 a ha (by omega)
          case measure => simp [intOf]; have := HIM.out; omega
    · have hlt' : ¬ (i : Int) < (n : Int) := by omega
      obtain rfl : i = n := by omega
      go_wp2
      go_ret
      exact ⟨⟨true, rfl, fun _ => once_all (by rw [HN.out]; exact Nat.le_refl _) HR.out.1⟩, HR.out.2⟩
end Go.Proofs.Ytkgfpnmifgifpaa
