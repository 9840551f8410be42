/-
  The writers of codec once more, with what a box of the caller's wants: they change no block but blocks of bytes.
-/
import Derived.Test.YtgghfmdciohinaaMsgA
namespace Go.Proofs.Ytgghfmdciohinaa
open Go.RowKit Go.Maps

/-- Nothing is changed but blocks of bytes. -/
def T8 (w w' : World) : Prop := Turns (fun k => ∃ cs, Blk w k 5 cs) w w'
section
variable {w w1 w2 : World}
theorem T8.refl (w : World) : T8 w w := Turns.refl _ _
theorem T8.trans (h : T8 w w1) (k : T8 w1 w2) : T8 w w2 :=
  Turns.trans h k fun i hi => by
    by_cases hl : w.heap.size ≤ i
    · exact .inr hl
    · left
      apply Classical.byContradiction
      intro hn
      obtain ⟨cs, hc⟩ := hi
      exact hn ⟨cs, (h.block i (by omega) hn).symm.trans hc⟩
theorem T8.alloc (h : T8 w w1) (o : Obj) : T8 w (w1.alloc o) := Turns.alloc h o
theorem T8.of_below (h : Below w.heap.size w w1) : T8 w w1 := Turns.of_below h (Nat.le_refl _)
theorem T8.blk (h : T8 w w1) {k : Nat} {t : TypeId} {cs : List Value} (hb : Blk w k t cs) (ht : t ≠ 5) : Blk w1 k t cs :=
  Turns.blk h hb fun ⟨cs', hc⟩ => by
    have h1 : w.heap[k]? = some (.cells cs.toArray t) := hb
    have h2 : w.heap[k]? = some (.cells cs'.toArray 5) := hc
    rw [h1] at h2
    injection h2 with h2
    injection h2 with _ h2
    exact ht h2
theorem T8.row {B n : Nat} {v : Value} {xs : List Value} (hown : w.ownsRow B 5 1 v n xs) (hg : w.grownBy w1 v.ownBlock) : T8 w w1 :=
  Turns.of_grown hg fun k hk => by
    rcases hown.2 with ⟨h0, _⟩ | ⟨g, c, cur, h0, _, hb, _⟩
    · rw [h0] at hk
      simp [Value.ownBlock] at hk
    · rw [h0] at hk
      have : g = k := by simpa [Value.ownBlock] using hk
      subst this
      exact ⟨cur.toList, by simpa [Blk] using hb⟩
end
/-- What a writer leaves: the row with more in it. -/
def AppP (B : Nat) (w : World) (n : Nat) (bs en : List Int) (e : Ending) (w' : World) : Prop := ∃ v', e = .returned v' ∧ w'.ownsRow B 5 1 v' (n + en.length) (nums (bs ++ en)) ∧ Below B w w' ∧ T8 w w'
theorem appendUint_T (v : Value) (n : Nat) (bs : List Int) (x : Int) (B : Nat) (w : World) (h0 : 0 ≤ x) (hx : x < 18446744073709551616) (hown : w.ownsRow B 5 1 v n (nums bs)) (hB : B ≤ w.heap.size) (hn : n ≤ 140737488355000) :
    Calls Try.prog 92 #[v, .int .u64 x] w (AppP B w n bs (enc x.toNat)) := by
  obtain ⟨y, rfl⟩ := Int.eq_ofNat_of_zero_le h0
  refine (appendUint_any v n bs y B w (by omega) hown hB hn).mono ?_
  rintro e w' ⟨v', rfl, h1, h2⟩
  exact ⟨v', rfl, by simpa using h1, h2.below (Below.refl _ _) hB (own_lt hown), T8.row hown h2.1⟩
theorem appendNumber_T (v : Value) (n : Nat) (bs : List Int) (x : Int) (B : Nat) (w : World) (h0 : 0 ≤ x) (hx : x ≤ 9223372036854775807) (hown : w.ownsRow B 5 1 v n (nums bs)) (hB : B ≤ w.heap.size) (hn : n ≤ 140737488355000) :
    Calls Try.prog 70 #[v, .int .i64 x] w (AppP B w n bs (enc x.toNat)) := by
  have H := hid (appendUint_T v n bs x B w h0 (by omega) hown hB hn)
  have hwr : IntKind.u64.wrap x = x := by rw [IntKind.wrap_u64]; omega
  clear hown
  go_enter Try.func70, Try.ntmps70
  go_wp2_with fail
  refine H.out.mono ?_
  rintro e w' ⟨v', rfl, h1, h2⟩
  have H1 := hid h1
  have H2 := hid h2
  clear h1 h2
  go_wp2
  go_ret
  exact ⟨v', rfl, H1.out, H2.out⟩
theorem appendText_T (v : Value) (n : Nat) (bs : List Int) (s : ByteArray) (B : Nat) (w : World) (hown : w.ownsRow B 5 1 v n (nums bs)) (hB : B ≤ w.heap.size) (hn : n + s.size ≤ 140737488355000) :
    Calls Try.prog 96 #[v, .string s] w (AppP B w n bs (encText s)) := by
  obtain ⟨i0, hi, hz0, hz1, hz2⟩ := info_parts Try.info5
  have h10 := enc_le10 (x := s.size) (by omega)
  have HO : Hid (w.ownsRow B 5 1 v n (nums bs)) := hown
  clear hown
  go_enter Try.func96, Try.ntmps96
  go_wp2_with fail
  refine (appendUint_T v n bs s.size B w (by omega) (by omega) HO.out hB (by omega)).mono ?_
  rintro e w1 ⟨v1, rfl, hown1, hb1, ht1⟩
  rw [Int.toNat_natCast] at hown1
  have hs1 : w.heap.size ≤ w1.heap.size := hb1.size
  have HB : Hid (Below B w w1) := hb1
  have HT := hid ht1
  have HL : Hid (∀ k, v1.ownBlock = some k → B ≤ k) := own_lt hown1
  clear hb1 ht1
  go_wp2_with (at_builtin; refine Lib.wpList_append_own_string _ rfl _ _ 62 9 rfl B 5 i0 Try.underlying62 Try.underlying9 hi hz0 hz1 hz2 _ _ _ rfl hown1 s rfl (by unfold maxLen; omega) (by omega) (by omega) ?_)
  intro v' w2 hown' hgrow _
  have HB2 : Hid (Below B w w2) := HB.out.grown hgrow (by omega) HL.out
  have HT2 := hid (HT.out.trans (T8.row hown1 hgrow))
  have HO2 : Hid (w2.ownsRow B 5 1 v' (n + (encText s).length) (nums (bs ++ encText s))) := by
    rw [encText_len, encText, ← List.append_assoc, nums_append, strNums_cells, ← Nat.add_assoc]
    exact hown'
  clear hown' hgrow hown1
  go_wp2
  go_ret
  exact ⟨v', rfl, HO2.out, HB2.out, HT2.out⟩
theorem appendTruth_T (v : Value) (n : Nat) (bs : List Int) (b : Bool) (B : Nat) (w : World) (hown : w.ownsRow B 5 1 v n (nums bs)) (hB : B ≤ w.heap.size) (hn : n ≤ 140737488350000) :
    Calls Try.prog 93 #[v, .bool b] w (AppP B w n bs (encBC b)) := by
  obtain ⟨i0, hi, hz0, hz1, hz2⟩ := info_parts Try.info5
  have HL : Hid (∀ k, v.ownBlock = some k → B ≤ k) := fun k hk => (hown.lt k hk).1
  cases b
  · go_enter Try.func93, Try.ntmps93
    go_wp2_with (at_builtin; refine wpList_append_own_at _ rfl _ _ 62 rfl B 5 i0 (.int .u8 0) 1 1 Try.underlying62 hi hz0 hz1 hz2 rfl (by decide) _ _ _ rfl (hown.alloc _) ⟨w.heap.size, 0, none⟩ 1 1 [.int .u8 0] rfl rfl (cell_one_new _ _ _) (one_int _ _) (by unfold maxLen; omega) (by omega) (by simp; omega) ?_)
    intro v' w1 hown' hgrow _ _
    have HO : Hid (w1.ownsRow B 5 1 v' (n + 1) (nums (bs ++ [0]))) := by rw [nums_append]; exact hown'
    have HB : Hid (Below B w w1) := ((Below.refl _ _).alloc hB _).grown hgrow (by simp; omega) HL.out
    have HT : Hid (T8 w w1) := T8.trans ((T8.refl w).alloc _) (T8.row (hown.alloc _) hgrow)
    clear hown' hgrow hown
    go_wp2
    go_ret
    exact ⟨v', rfl, HO.out, HB.out, HT.out⟩
  · go_enter Try.func93, Try.ntmps93
    go_wp2_with (at_builtin; refine wpList_append_own_at _ rfl _ _ 62 rfl B 5 i0 (.int .u8 0) 1 1 Try.underlying62 hi hz0 hz1 hz2 rfl (by decide) _ _ _ rfl (hown.alloc _) ⟨w.heap.size, 0, none⟩ 1 1 [.int .u8 1] rfl rfl (cell_one_new _ _ _) (one_int _ _) (by unfold maxLen; omega) (by omega) (by simp; omega) ?_)
    intro v' w1 hown' hgrow _ _
    have HO : Hid (w1.ownsRow B 5 1 v' (n + 1) (nums (bs ++ [1]))) := by rw [nums_append]; exact hown'
    have HB : Hid (Below B w w1) := ((Below.refl _ _).alloc hB _).grown hgrow (by simp; omega) HL.out
    have HT : Hid (T8 w w1) := T8.trans ((T8.refl w).alloc _) (T8.row (hown.alloc _) hgrow)
    clear hown' hgrow hown
    go_wp2
    go_ret
    exact ⟨v', rfl, HO.out, HB.out, HT.out⟩
set_option maxRecDepth 100000 in
set_option maxHeartbeats 1000000 in
theorem appendListI_T (u : Value) (n : Nat) (bs : List Int) (ao : Option Addr) (cap : Nat) (v : List Int) (m : Nat) (hm : v.length = m) (B : Nat) (w : World) (hv : ∀ V, Below B w V → HV V ao cap v) (h7 : m ≤ 7) (hin : InVC v)
    (hown : w.ownsRow B 5 1 u n (nums bs)) (hB : B ≤ w.heap.size) (hn : n ≤ 140737488350000) :
    Calls Try.prog 95 #[u, .slice ao m cap, .func (.func 70) #[] #[]] w (AppP B w n bs (encVC v)) := by
  have l0 := enc_le10 (x := m) (by omega)
  have HA := hid (appendUint_T u n bs m B w (by omega) (by omega) hown hB (by omega))
  rw [Int.toNat_natCast] at HA
  have hwr : IntKind.u64.wrap (m : Int) = (m : Int) := by rw [IntKind.wrap_u64]; omega
  obtain ⟨c0, HC0⟩ : ∃ c, Hid (n + (enc m).length = c) := ⟨_, hid rfl⟩
  unfold AppP at HA
  rw [HC0.out] at HA
  have hc0 : c0 ≤ 140737488350010 := by have := HC0.out; omega
  have HM := hid hm
  have HVV := hid hv
  have HIN := hid hin
  clear hm hv hin hown l0
  go_enter Try.func95, Try.ntmps95
  go_wp2_with fail
  refine HA.out.mono ?_
  rintro e w1 ⟨v1, rfl, hr1, hb1, ht1⟩
  have HT1 := hid ht1
  have HR1 := hid hr1
  have HB1 := hid hb1
  clear hr1 hb1 ht1 HA
  go_wp2
  go_loopw [0, 8, 16] (fun b _ i wr => ∃ k : Nat, k ≤ m ∧ i = .int .i64 k ∧ Hid (wr.ownsRow B 5 1 b (c0 + (encNC (v.take k)).length) (nums (bs ++ enc m ++ encNC (v.take k))) ∧ Below B w wr ∧ T8 w wr)) (fun _ _ i _ => m - (intOf i).toNat)
  case atStart => exact ⟨0, Nat.zero_le _, rfl, by rw [List.take_zero]; show World.ownsRow _ _ _ _ _ c0 (nums (bs ++ enc m ++ [])); rw [List.append_nil]; exact HR1.out, HB1.out, HT1.out⟩
  case round =>
    obtain ⟨k, hk, rfl, HR⟩ := hrel
    by_cases hlt : k < m
    · have hlt' : (k : Int) < (m : Int) := by omega
      have hkx : Hid (k < v.length) := (by rw [HM.out]; exact hlt : k < v.length)
      have HKM : Hid (k + 1 ≤ m) := (by omega : k + 1 ≤ m)
      rcases (HVV.out wr HR.out.2.1).held.2 with h0 | ⟨b, off, hao, hb, hc⟩
      · exfalso
        have := hkx.out
        rw [h0] at this
        cases this
      have gk := hc k hkx.out
      have HX2 := hid (HIN.out _ (getD_mem hkx.out))
      have HTK := hid (encN_takeC hkx.out)
      have HLN : Hid ((encNC (v.take k)).length ≤ 70) := by
        have h1 := encN_lenC (inV_takeC HIN.out k)
        have h2 : (v.take k).length ≤ 7 := by rw [List.length_take]; omega
        show _ ≤ _
        omega
      subst hao
      clear hc
      obtain ⟨X, HX⟩ : ∃ X, Hid (v.getD k 0 = X) := ⟨_, hid rfl⟩
      rw [HX.out] at gk HX2 HTK
      have HAN := hid (appendNumber_T u0 (c0 + (encNC (v.take k)).length) (bs ++ enc m ++ encNC (v.take k)) X B wr HX2.out.1 (by have := HX2.out; omega) HR.out.1 (Nat.le_trans hB HR.out.2.1.size) (by have := HLN.out; omega))
      go_wp2_with fail
      refine HAN.out.mono ?_
      rintro e w2 ⟨v2, rfl, hr2, hb2, ht2⟩
      have HR2 := hid hr2
      have HB2 := hid (HR.out.2.1.trans hb2)
      have HT2 := hid (HR.out.2.2.trans ht2)
      clear hr2 hb2 ht2 HAN
      go_wp2
      go_roundw
      case rel =>
        refine ⟨k + 1, HKM.out, by go_num, ?_, HB2.out, HT2.out⟩
        rw [HTK.out, List.length_append, ← List.append_assoc, ← Nat.add_assoc]
        exact HR2.out
      case measure => simp [intOf]; have := HKM.out; omega
    · have hlt' : ¬ (k : Int) < (m : Int) := by omega
      have hke : Hid (v.take k = v) := by show _ = _; rw [List.take_of_length_le]; have := HM.out; omega
      rw [hke.out] at HR
      have HE : Hid (wr.ownsRow B 5 1 u0 (n + (encVC v).length) (nums (bs ++ encVC v))) := by
        have := HR.out.1
        rw [← HC0.out, List.append_assoc, Nat.add_assoc, ← List.length_append] at this
        show World.ownsRow _ _ _ _ _ _ _
        unfold encVC
        rw [HM.out]
        exact this
      go_wp2
      go_ret
      exact ⟨_, rfl, HE.out, HR.out.2.1, HR.out.2.2⟩
theorem appendVector_T (u : Value) (n : Nat) (bs : List Int) (ao : Option Addr) (cap : Nat) (v : List Int) (m : Nat) (hm : v.length = m) (B : Nat) (w : World) (hv : ∀ V, Below B w V → HV V ao cap v) (h7 : m ≤ 7) (hin : InVC v)
    (hown : w.ownsRow B 5 1 u n (nums bs)) (hB : B ≤ w.heap.size) (hn : n ≤ 140737488350000) :
    Calls Try.prog 75 #[u, .slice ao m cap] w (AppP B w n bs (encVC v)) := by
  have HL := hid (appendListI_T u n bs ao cap v m hm B w hv h7 hin hown hB hn)
  clear hown hv hm
  go_enter Try.func75, Try.ntmps75
  go_wp2_with fail
  refine HL.out.mono ?_
  rintro e w' ⟨v', rfl, h1, h2⟩
  have H1 := hid h1
  have H2 := hid h2
  clear h1 h2
  go_wp2
  go_ret
  exact ⟨v', rfl, H1.out, H2.out⟩
end Go.Proofs.Ytgghfmdciohinaa
/-
  Package codec: how a ballot, a seal, an entry, a vote, an event are written.
-/
namespace Go.Proofs.Ytgghfmdciohinaa
open Go.RowKit Go.Maps
attribute [local go_sem] Oper.semAt_some

/-- A step of a writer, from W on. -/
structure StepT (B : Nat) (W V : World) : Prop where
  bel : Below B W V
  t8 : T8 W V
theorem StepT.start (B : Nat) (W : World) : StepT B W W := ⟨Below.refl _ _, T8.refl _⟩
theorem StepT.dr {B : Nat} {W V : World} (h : StepT B W V) : StepT B W V.drew := ⟨below_dn h.bel 1, Turns.drew h.t8⟩
theorem StepT.go {B : Nat} {W V U : World} (h : StepT B W V) (hb : Below B V U) (ht : T8 V U) : StepT B W U := ⟨h.bel.trans hb, h.t8.trans ht⟩
theorem row_drew {B e size n : Nat} {w : World} {v : Value} {xs : List Value} (h : w.ownsRow B e size v n xs) : w.drew.ownsRow B e size v n xs := h
set_option maxRecDepth 100000 in
set_option maxHeartbeats 1000000 in
theorem appendBallot_T (u : Value) (n : Nat) (bs : List Int) (r nd : Int) (B : Nat) (w : World) (h1 : 0 ≤ r ∧ r ≤ 2147483647) (h2 : 0 ≤ nd ∧ nd ≤ 6) (hown : w.ownsRow B 5 1 u n (nums bs)) (hB : B ≤ w.heap.size) (hn : n ≤ 140737488300000) :
    Calls Try.prog 71 #[u, .agg #[.int .i64 r, .int .i64 nd]] w (AppP B w n bs (enc r.toNat ++ enc nd.toNat)) := by
  obtain ⟨W, hW⟩ : ∃ W, W = w.alloc (.cells #[.int .i64 r, .int .i64 nd] 66) := ⟨_, rfl⟩
  have HB : Hid (StepT B w W) := by rw [hW]; exact ⟨(Below.refl _ _).alloc hB _, (T8.refl w).alloc _⟩
  have HK : Hid (Blk W w.heap.size 66 [.int .i64 r, .int .i64 nd]) := by rw [hW]; exact Blk.new w _ _
  have HR0 : Hid (W.ownsRow B 5 1 u n (nums bs)) := by rw [hW]; exact hown.alloc _
  have l1 := enc_le10 (x := r.toNat) (by omega)
  obtain ⟨a1, HA1⟩ : ∃ a, Hid ((enc r.toNat).length = a) := ⟨_, hid rfl⟩
  have hBW : B ≤ W.heap.size := Nat.le_trans hB HB.out.bel.size
  have HT1 : Hid (∀ V, StepT B W V → Hid (V.ownsRow B 5 1 u n (nums bs)) → Calls Try.prog 70 #[u, .int .i64 r] V fun e w' => ∃ v', e = .returned v' ∧ Hid (w'.ownsRow B 5 1 v' (n + a1) (nums (bs ++ enc r.toNat))) ∧ StepT B W w') := fun V hV hr => by
    refine (appendNumber_T u n bs r B V h1.1 (by omega) hr.out (Nat.le_trans hBW hV.bel.size) (by omega)).mono ?_
    rintro e w' ⟨v', rfl, k1, k2, k3⟩
    exact ⟨v', rfl, by rw [← HA1.out]; exact k1, hV.go k2 k3⟩
  have HT2 : Hid (∀ V v1, StepT B W V → Hid (V.ownsRow B 5 1 v1 (n + a1) (nums (bs ++ enc r.toNat))) → Calls Try.prog 70 #[v1, .int .i64 nd] V fun e w' => ∃ v', e = .returned v' ∧ Hid (w'.ownsRow B 5 1 v' (n + (enc r.toNat ++ enc nd.toNat).length) (nums (bs ++ (enc r.toNat ++ enc nd.toNat)))) ∧ StepT B W w') := fun V v1 hV hr => by
    refine (appendNumber_T v1 (n + a1) _ nd B V h2.1 (by omega) hr.out (Nat.le_trans hBW hV.bel.size) (by have := HA1.out; omega)).mono ?_
    rintro e w' ⟨v', rfl, k1, k2, k3⟩
    refine ⟨v', rfl, ?_, hV.go k2 k3⟩
    rw [List.length_append, HA1.out, ← List.append_assoc, ← Nat.add_assoc]
    exact k1
  have HW := hid hW
  have HSA : Hid (∀ V, StepT B W V → (StepT B W V ∧ V.cell? ⟨w.heap.size, 0, none⟩ = some (.int .i64 r) ∧ V.cell? ⟨w.heap.size, 1, none⟩ = some (.int .i64 nd))) := fun V hV => by
    have hk := hV.t8.blk HK.out (by decide)
    exact ⟨hV, hk.cell rfl, hk.cell rfl⟩
  have HRD : Hid (∀ (V : World) v k cs, Hid (V.ownsRow B 5 1 v k cs) → Hid (V.drew.ownsRow B 5 1 v k cs)) := fun V v k cs h => row_drew h.out
  clear hW hown l1 h1 h2 HA1
  go_enter Try.func71, Try.ntmps71
  go_wp2
  rw [← HW.out]
  obtain ⟨p, hp⟩ : ∃ p, p = w.heap.size := ⟨_, rfl⟩
  rw [← hp] at HSA ⊢
  clear hp HW HK
  obtain ⟨_, q0, q1⟩ := HSA.out W (StepT.start _ _)
  go_region_held3 (fun V => StepT B W V ∧ V.cell? ⟨p, 0, none⟩ = some (.int .i64 r) ∧ V.cell? ⟨p, 1, none⟩ = some (.int .i64 nd)) (first | (refine ⟨?_, ?_, ?_⟩ <;> assumption) | (refine HSA.out _ ?_; (repeat (first | assumption | exact StepT.start _ _ | apply StepT.dr)); done)) (first
    | (go_at_call 70; with_reducible refine (HT1.out _ (by repeat (first | assumption | exact StepT.start _ _ | apply StepT.dr)) (by first | exact HR0 | exact HRD.out _ _ _ _ HR0)).mono ?_; rintro e w1 ⟨v1, rfl, hr1, hs1⟩)
    | (go_at_call 70; with_reducible refine (HT2.out _ _ (by repeat (first | assumption | exact StepT.start _ _ | apply StepT.dr)) (by first | assumption | (refine HRD.out _ _ _ _ ?_; assumption))).mono ?_; rintro e w2 ⟨v2, rfl, hr2, hs2⟩))
  all_goals
    have HF : Hid (StepT B w w2) := ⟨HB.out.bel.trans hs2.bel, HB.out.t8.trans hs2.t8⟩
    clear hs2 hs1 HT1 HT2 HSA
    go_wp2
    go_ret
    exact ⟨_, rfl, hr2.out, HF.out.bel, HF.out.t8⟩
end Go.Proofs.Ytgghfmdciohinaa
