/-
  The writers of codec once more, with what a box of the caller's wants: they change no block but blocks of bytes.
-/
import Derived.Test.YtfmnbehopdmahaaGreatMsgA
namespace Go.Proofs.YtfmnbehopdmahaaGreat
open Go.RowKit Go.Maps

/-- Nothing is changed but blocks of bytes. -/
def T8 (w w' : World) : Prop := Turns (fun k => ∃ cs, Blk w k 5 cs) w w'
section
variable {w w1 w2 : World}
theorem T8.refl (w : World) : T8 w w := Turns.refl _ _
theorem T8.trans (h : T8 w w1) (k : T8 w1 w2) : T8 w w2 :=
  Turns.trans h k fun i hi => by
    by_cases hl : w.heap.size ≤ i
    · exact .inr hl
    · left
      apply Classical.byContradiction
      intro hn
      obtain ⟨cs, hc⟩ := hi
      exact hn ⟨cs, (h.block i (by omega) hn).symm.trans hc⟩
theorem T8.alloc (h : T8 w w1) (o : Obj) : T8 w (w1.alloc o) := Turns.alloc h o
theorem T8.of_below (h : Below w.heap.size w w1) : T8 w w1 := Turns.of_below h (Nat.le_refl _)
theorem T8.blk (h : T8 w w1) {k : Nat} {t : TypeId} {cs : List Value} (hb : Blk w k t cs) (ht : t ≠ 5) : Blk w1 k t cs :=
  Turns.blk h hb fun ⟨cs', hc⟩ => by
    have h1 : w.heap[k]? = some (.cells cs.toArray t) := hb
    have h2 : w.heap[k]? = some (.cells cs'.toArray 5) := hc
    rw [h1] at h2
    injection h2 with h2
    injection h2 with _ h2
    exact ht h2
theorem T8.row {B n : Nat} {v : Value} {xs : List Value} (hown : w.ownsRow B 5 1 v n xs) (hg : w.grownBy w1 v.ownBlock) : T8 w w1 :=
  Turns.of_grown hg fun k hk => by
    rcases hown.2 with ⟨h0, _⟩ | ⟨g, c, cur, h0, _, hb, _⟩
    · rw [h0] at hk
      simp [Value.ownBlock] at hk
    · rw [h0] at hk
      have : g = k := by simpa [Value.ownBlock] using hk
      subst this
      exact ⟨cur.toList, by simpa [Blk] using hb⟩
end
/-- What a writer leaves: the row with more in it. -/
def AppP (B : Nat) (w : World) (n : Nat) (bs en : List Int) (e : Ending) (w' : World) : Prop := ∃ v', e = .returned v' ∧ w'.ownsRow B 5 1 v' (n + en.length) (nums (bs ++ en)) ∧ Below B w w' ∧ T8 w w'
theorem appendUint_T (v : Value) (n : Nat) (bs : List Int) (x : Int) (B : Nat) (w : World) (h0 : 0 ≤ x) (hx : x < 18446744073709551616) (hown : w.ownsRow B 5 1 v n (nums bs)) (hB : B ≤ w.heap.size) (hn : n ≤ 140737488355000) :
    Calls Tryz.prog 149 #[v, .int .u64 x] w (AppP B w n bs (enc x.toNat)) := by
  obtain ⟨y, rfl⟩ := Int.eq_ofNat_of_zero_le h0
  refine (appendUint_any v n bs y B w (by omega) hown hB hn).mono ?_
  rintro e w' ⟨v', rfl, h1, h2⟩
  exact ⟨v', rfl, by simpa using h1, h2.below (Below.refl _ _) hB (own_lt hown), T8.row hown h2.1⟩
theorem appendNumber_T (v : Value) (n : Nat) (bs : List Int) (x : Int) (B : Nat) (w : World) (h0 : 0 ≤ x) (hx : x ≤ 9223372036854775807) (hown : w.ownsRow B 5 1 v n (nums bs)) (hB : B ≤ w.heap.size) (hn : n ≤ 140737488355000) :
    Calls Tryz.prog 101 #[v, .int .i64 x] w (AppP B w n bs (enc x.toNat)) := by
  have H := hid (appendUint_T v n bs x B w h0 (by omega) hown hB hn)
  have hwr : IntKind.u64.wrap x = x := by rw [IntKind.wrap_u64]; omega
  clear hown
  go_enter Tryz.func101, Tryz.ntmps101
  go_wp2_with fail
  refine H.out.mono ?_
  rintro e w' ⟨v', rfl, h1, h2⟩
  have H1 := hid h1
  have H2 := hid h2
  clear h1 h2
  go_wp2
  go_ret
  exact ⟨v', rfl, H1.out, H2.out⟩
theorem appendText_T (v : Value) (n : Nat) (bs : List Int) (s : ByteArray) (B : Nat) (w : World) (hown : w.ownsRow B 5 1 v n (nums bs)) (hB : B ≤ w.heap.size) (hn : n + s.size ≤ 140737488355000) :
    Calls Tryz.prog 153 #[v, .string s] w (AppP B w n bs (encText s)) := by
  obtain ⟨i0, hi, hz0, hz1, hz2⟩ := info_parts Tryz.info5
  have h10 := enc_le10 (x := s.size) (by omega)
  have HO : Hid (w.ownsRow B 5 1 v n (nums bs)) := hown
  clear hown
  go_enter Tryz.func153, Tryz.ntmps153
  go_wp2_with fail
  refine (appendUint_T v n bs s.size B w (by omega) (by omega) HO.out hB (by omega)).mono ?_
  rintro e w1 ⟨v1, rfl, hown1, hb1, ht1⟩
  rw [Int.toNat_natCast] at hown1
  have hs1 : w.heap.size ≤ w1.heap.size := hb1.size
  have HB : Hid (Below B w w1) := hb1
  have HT := hid ht1
  have HL : Hid (∀ k, v1.ownBlock = some k → B ≤ k) := own_lt hown1
  clear hb1 ht1
  go_wp2_with (at_builtin; refine Lib.wpList_append_own_string _ rfl _ _ 66 9 rfl B 5 i0 Tryz.underlying66 Tryz.underlying9 hi hz0 hz1 hz2 _ _ _ rfl hown1 s rfl (by unfold maxLen; omega) (by omega) (by omega) ?_)
  intro v' w2 hown' hgrow _
  have HB2 : Hid (Below B w w2) := HB.out.grown hgrow (by omega) HL.out
  have HT2 := hid (HT.out.trans (T8.row hown1 hgrow))
  have HO2 : Hid (w2.ownsRow B 5 1 v' (n + (encText s).length) (nums (bs ++ encText s))) := by
    rw [encText_len, encText, ← List.append_assoc, nums_append, strNums_cells, ← Nat.add_assoc]
    exact hown'
  clear hown' hgrow hown1
  go_wp2
  go_ret
  exact ⟨v', rfl, HO2.out, HB2.out, HT2.out⟩
theorem appendTruth_T (v : Value) (n : Nat) (bs : List Int) (b : Bool) (B : Nat) (w : World) (hown : w.ownsRow B 5 1 v n (nums bs)) (hB : B ≤ w.heap.size) (hn : n ≤ 140737488350000) :
    Calls Tryz.prog 150 #[v, .bool b] w (AppP B w n bs (encBC b)) := by
  obtain ⟨i0, hi, hz0, hz1, hz2⟩ := info_parts Tryz.info5
  have HL : Hid (∀ k, v.ownBlock = some k → B ≤ k) := fun k hk => (hown.lt k hk).1
  cases b
  · go_enter Tryz.func150, Tryz.ntmps150
    go_wp2_with (at_builtin; refine wpList_append_own_at _ rfl _ _ 66 rfl B 5 i0 (.int .u8 0) 1 1 Tryz.underlying66 hi hz0 hz1 hz2 rfl (by decide) _ _ _ rfl (hown.alloc _) ⟨w.heap.size, 0, none⟩ 1 1 [.int .u8 0] rfl rfl (cell_one_new _ _ _) (one_int _ _) (by unfold maxLen; omega) (by omega) (by simp; omega) ?_)
    intro v' w1 hown' hgrow _ _
    have HO : Hid (w1.ownsRow B 5 1 v' (n + 1) (nums (bs ++ [0]))) := by rw [nums_append]; exact hown'
    have HB : Hid (Below B w w1) := ((Below.refl _ _).alloc hB _).grown hgrow (by simp; omega) HL.out
    have HT : Hid (T8 w w1) := T8.trans ((T8.refl w).alloc _) (T8.row (hown.alloc _) hgrow)
    clear hown' hgrow hown
    go_wp2
    go_ret
    exact ⟨v', rfl, HO.out, HB.out, HT.out⟩
  · go_enter Tryz.func150, Tryz.ntmps150
    go_wp2_with (at_builtin; refine wpList_append_own_at _ rfl _ _ 66 rfl B 5 i0 (.int .u8 0) 1 1 Tryz.underlying66 hi hz0 hz1 hz2 rfl (by decide) _ _ _ rfl (hown.alloc _) ⟨w.heap.size, 0, none⟩ 1 1 [.int .u8 1] rfl rfl (cell_one_new _ _ _) (one_int _ _) (by unfold maxLen; omega) (by omega) (by simp; omega) ?_)
    intro v' w1 hown' hgrow _ _
    have HO : Hid (w1.ownsRow B 5 1 v' (n + 1) (nums (bs ++ [1]))) := by rw [nums_append]; exact hown'
    have HB : Hid (Below B w w1) := ((Below.refl _ _).alloc hB _).grown hgrow (by simp; omega) HL.out
    have HT : Hid (T8 w w1) := T8.trans ((T8.refl w).alloc _) (T8.row (hown.alloc _) hgrow)
    clear hown' hgrow hown
    go_wp2
    go_ret
    exact ⟨v', rfl, HO.out, HB.out, HT.out⟩
set_option maxRecDepth 100000 in
set_option maxHeartbeats 1000000 in
theorem appendListI_T (u : Value) (n : Nat) (bs : List Int) (ao : Option Addr) (cap : Nat) (v : List Int) (m : Nat) (hm : v.length = m) (B : Nat) (w : World) (hv : ∀ V, Below B w V → HV V ao cap v) (h7 : m ≤ 7) (hin : InVC v)
    (hown : w.ownsRow B 5 1 u n (nums bs)) (hB : B ≤ w.heap.size) (hn : n ≤ 140737488350000) :
    Calls Tryz.prog 152 #[u, .slice ao m cap, .func (.func 101) #[] #[]] w (AppP B w n bs (encVC v)) := by
  have l0 := enc_le10 (x := m) (by omega)
  have HA := hid (appendUint_T u n bs m B w (by omega) (by omega) hown hB (by omega))
  rw [Int.toNat_natCast] at HA
  have hwr : IntKind.u64.wrap (m : Int) = (m : Int) := by rw [IntKind.wrap_u64]; omega
  obtain ⟨c0, HC0⟩ : ∃ c, Hid (n + (enc m).length = c) := ⟨_, hid rfl⟩
  unfold AppP at HA
  rw [HC0.out] at HA
  have hc0 : c0 ≤ 140737488350010 := by have := HC0.out; omega
  have HM := hid hm
  have HVV := hid hv
  have HIN := hid hin
  clear hm hv hin hown l0
  go_enter Tryz.func152, Tryz.ntmps152
  go_wp2_with fail
  refine HA.out.mono ?_
  rintro e w1 ⟨v1, rfl, hr1, hb1, ht1⟩
  have HT1 := hid ht1
  have HR1 := hid hr1
  have HB1 := hid hb1
  clear hr1 hb1 ht1 HA
  go_wp2
  go_loopw [0, 8, 16] (fun b _ i wr => ∃ k : Nat, k ≤ m ∧ i = .int .i64 k ∧ Hid (wr.ownsRow B 5 1 b (c0 + (encNC (v.take k)).length) (nums (bs ++ enc m ++ encNC (v.take k))) ∧ Below B w wr ∧ T8 w wr)) (fun _ _ i _ => m - (intOf i).toNat)
  case atStart => exact ⟨0, Nat.zero_le _, rfl, by rw [List.take_zero]; show World.ownsRow _ _ _ _ _ c0 (nums (bs ++ enc m ++ [])); rw [List.append_nil]; exact HR1.out, HB1.out, HT1.out⟩
  case round =>
    obtain ⟨k, hk, rfl, HR⟩ := hrel
    by_cases hlt : k < m
    · have hlt' : (k : Int) < (m : Int) := by omega
      have hkx : Hid (k < v.length) := (by rw [HM.out]; exact hlt : k < v.length)
      have HKM : Hid (k + 1 ≤ m) := (by omega : k + 1 ≤ m)
      rcases (HVV.out wr HR.out.2.1).held.2 with h0 | ⟨b, off, hao, hb, hc⟩
      · exfalso
        have := hkx.out
        rw [h0] at this
        cases this
      have gk := hc k hkx.out
      have HX2 := hid (HIN.out _ (getD_mem hkx.out))
      have HTK := hid (encN_takeC hkx.out)
      have HLN : Hid ((encNC (v.take k)).length ≤ 70) := by
        have h1 := encN_lenC (inV_takeC HIN.out k)
        have h2 : (v.take k).length ≤ 7 := by rw [List.length_take]; omega
        show _ ≤ _
        omega
      subst hao
      clear hc
      obtain ⟨X, HX⟩ : ∃ X, Hid (v.getD k 0 = X) := ⟨_, hid rfl⟩
      rw [HX.out] at gk HX2 HTK
      have HAN := hid (appendNumber_T u0 (c0 + (encNC (v.take k)).length) (bs ++ enc m ++ encNC (v.take k)) X B wr HX2.out.1 (by have := HX2.out; omega) HR.out.1 (Nat.le_trans hB HR.out.2.1.size) (by have := HLN.out; omega))
      go_wp2_with fail
      refine HAN.out.mono ?_
      rintro e w2 ⟨v2, rfl, hr2, hb2, ht2⟩
      have HR2 := hid hr2
      have HB2 := hid (HR.out.2.1.trans hb2)
      have HT2 := hid (HR.out.2.2.trans ht2)
      clear hr2 hb2 ht2 HAN
      go_wp2
      go_roundw
      case rel =>
        refine ⟨k + 1, HKM.out, by go_num, ?_, HB2.out, HT2.out⟩
        rw [HTK.out, List.length_append, ← List.append_assoc, ← Nat.add_assoc]
        exact HR2.out
      case measure => simp [intOf]; have := HKM.out; omega
    · have hlt' : ¬ (k : Int) < (m : Int) := by omega
      have hke : Hid (v.take k = v) := by show _ = _; rw [List.take_of_length_le]; have := HM.out; omega
      rw [hke.out] at HR
      have HE : Hid (wr.ownsRow B 5 1 u0 (n + (encVC v).length) (nums (bs ++ encVC v))) := by
        have := HR.out.1
        rw [← HC0.out, List.append_assoc, Nat.add_assoc, ← List.length_append] at this
        show World.ownsRow _ _ _ _ _ _ _
        unfold encVC
        rw [HM.out]
        exact this
      go_wp2
      go_ret
      exact ⟨_, rfl, HE.out, HR.out.2.1, HR.out.2.2⟩
theorem appendVector_T (u : Value) (n : Nat) (bs : List Int) (ao : Option Addr) (cap : Nat) (v : List Int) (m : Nat) (hm : v.length = m) (B : Nat) (w : World) (hv : ∀ V, Below B w V → HV V ao cap v) (h7 : m ≤ 7) (hin : InVC v)
    (hown : w.ownsRow B 5 1 u n (nums bs)) (hB : B ≤ w.heap.size) (hn : n ≤ 140737488350000) :
    Calls Tryz.prog 106 #[u, .slice ao m cap] w (AppP B w n bs (encVC v)) := by
  have HL := hid (appendListI_T u n bs ao cap v m hm B w hv h7 hin hown hB hn)
  clear hown hv hm
  go_enter Tryz.func106, Tryz.ntmps106
  go_wp2_with fail
  refine HL.out.mono ?_
  rintro e w' ⟨v', rfl, h1, h2⟩
  have H1 := hid h1
  have H2 := hid h2
  clear h1 h2
  go_wp2
  go_ret
  exact ⟨v', rfl, H1.out, H2.out⟩
end Go.Proofs.YtfmnbehopdmahaaGreat
/-
  Package codec: how a ballot, a seal, an entry, a vote, an event are written.
-/
namespace Go.Proofs.YtfmnbehopdmahaaGreat
open Go.RowKit Go.Maps
attribute [local go_sem] Oper.semAt_some

/-- A step of a writer, from W on. -/
structure StepT (B : Nat) (W V : World) : Prop where
  bel : Below B W V
  t8 : T8 W V
theorem StepT.start (B : Nat) (W : World) : StepT B W W := ⟨Below.refl _ _, T8.refl _⟩
theorem StepT.dr {B : Nat} {W V : World} (h : StepT B W V) : StepT B W V.drew := ⟨below_dn h.bel 1, Turns.drew h.t8⟩
theorem StepT.go {B : Nat} {W V U : World} (h : StepT B W V) (hb : Below B V U) (ht : T8 V U) : StepT B W U := ⟨h.bel.trans hb, h.t8.trans ht⟩
theorem row_drew {B e size n : Nat} {w : World} {v : Value} {xs : List Value} (h : w.ownsRow B e size v n xs) : w.drew.ownsRow B e size v n xs := h
set_option maxRecDepth 100000 in
set_option maxHeartbeats 1000000 in
theorem appendBallot_T (u : Value) (n : Nat) (bs : List Int) (r nd : Int) (B : Nat) (w : World) (h1 : 0 ≤ r ∧ r ≤ 2147483647) (h2 : 0 ≤ nd ∧ nd ≤ 6) (hown : w.ownsRow B 5 1 u n (nums bs)) (hB : B ≤ w.heap.size) (hn : n ≤ 140737488300000) :
    Calls Tryz.prog 102 #[u, .agg #[.int .i64 r, .int .i64 nd]] w (AppP B w n bs (enc r.toNat ++ enc nd.toNat)) := by
  obtain ⟨W, hW⟩ : ∃ W, W = w.alloc (.cells #[.int .i64 r, .int .i64 nd] 35) := ⟨_, rfl⟩
  have HB : Hid (StepT B w W) := by rw [hW]; exact ⟨(Below.refl _ _).alloc hB _, (T8.refl w).alloc _⟩
  have HK : Hid (Blk W w.heap.size 35 [.int .i64 r, .int .i64 nd]) := by rw [hW]; exact Blk.new w _ _
  have HR0 : Hid (W.ownsRow B 5 1 u n (nums bs)) := by rw [hW]; exact hown.alloc _
  have l1 := enc_le10 (x := r.toNat) (by omega)
  obtain ⟨a1, HA1⟩ : ∃ a, Hid ((enc r.toNat).length = a) := ⟨_, hid rfl⟩
  have hBW : B ≤ W.heap.size := Nat.le_trans hB HB.out.bel.size
  have HT1 : Hid (∀ V, StepT B W V → Hid (V.ownsRow B 5 1 u n (nums bs)) → Calls Tryz.prog 101 #[u, .int .i64 r] V fun e w' => ∃ v', e = .returned v' ∧ Hid (w'.ownsRow B 5 1 v' (n + a1) (nums (bs ++ enc r.toNat))) ∧ StepT B W w') := fun V hV hr => by
    refine (appendNumber_T u n bs r B V h1.1 (by omega) hr.out (Nat.le_trans hBW hV.bel.size) (by omega)).mono ?_
    rintro e w' ⟨v', rfl, k1, k2, k3⟩
    exact ⟨v', rfl, by rw [← HA1.out]; exact k1, hV.go k2 k3⟩
  have HT2 : Hid (∀ V v1, StepT B W V → Hid (V.ownsRow B 5 1 v1 (n + a1) (nums (bs ++ enc r.toNat))) → Calls Tryz.prog 101 #[v1, .int .i64 nd] V fun e w' => ∃ v', e = .returned v' ∧ Hid (w'.ownsRow B 5 1 v' (n + (enc r.toNat ++ enc nd.toNat).length) (nums (bs ++ (enc r.toNat ++ enc nd.toNat)))) ∧ StepT B W w') := fun V v1 hV hr => by
    refine (appendNumber_T v1 (n + a1) _ nd B V h2.1 (by omega) hr.out (Nat.le_trans hBW hV.bel.size) (by have := HA1.out; omega)).mono ?_
    rintro e w' ⟨v', rfl, k1, k2, k3⟩
    refine ⟨v', rfl, ?_, hV.go k2 k3⟩
    rw [List.length_append, HA1.out, ← List.append_assoc, ← Nat.add_assoc]
    exact k1
  have HW := hid hW
  have HSA : Hid (∀ V, StepT B W V → (StepT B W V ∧ V.cell? ⟨w.heap.size, 0, none⟩ = some (.int .i64 r) ∧ V.cell? ⟨w.heap.size, 1, none⟩ = some (.int .i64 nd))) := fun V hV => by
    have hk := hV.t8.blk HK.out (by decide)
    exact ⟨hV, hk.cell rfl, hk.cell rfl⟩
  have HRD : Hid (∀ (V : World) v k cs, Hid (V.ownsRow B 5 1 v k cs) → Hid (V.drew.ownsRow B 5 1 v k cs)) := fun V v k cs h => row_drew h.out
  clear hW hown l1 h1 h2 HA1
  go_enter Tryz.func102, Tryz.ntmps102
  go_wp2
  rw [← HW.out]
  obtain ⟨p, hp⟩ : ∃ p, p = w.heap.size := ⟨_, rfl⟩
  rw [← hp] at HSA ⊢
  clear hp HW HK
  obtain ⟨_, q0, q1⟩ := HSA.out W (StepT.start _ _)
  go_region_held3 (fun V => StepT B W V ∧ V.cell? ⟨p, 0, none⟩ = some (.int .i64 r) ∧ V.cell? ⟨p, 1, none⟩ = some (.int .i64 nd)) (first | (refine ⟨?_, ?_, ?_⟩ <;> assumption) | (refine HSA.out _ ?_; (repeat (first | assumption | exact StepT.start _ _ | apply StepT.dr)); done)) (first
    | (go_at_call 101; with_reducible refine (HT1.out _ (by repeat (first | assumption | exact StepT.start _ _ | apply StepT.dr)) (by first | exact HR0 | exact HRD.out _ _ _ _ HR0)).mono ?_; rintro e w1 ⟨v1, rfl, hr1, hs1⟩)
    | (go_at_call 101; with_reducible refine (HT2.out _ _ (by repeat (first | assumption | exact StepT.start _ _ | apply StepT.dr)) (by first | assumption | (refine HRD.out _ _ _ _ ?_; assumption))).mono ?_; rintro e w2 ⟨v2, rfl, hr2, hs2⟩))
  all_goals
    have HF : Hid (StepT B w w2) := ⟨HB.out.bel.trans hs2.bel, HB.out.t8.trans hs2.t8⟩
    clear hs2 hs1 HT1 HT2 HSA
    go_wp2
    go_ret
    exact ⟨_, rfl, hr2.out, HF.out.bel, HF.out.t8⟩
end Go.Proofs.YtfmnbehopdmahaaGreat
/-
  Package codec: how a seal and an event are written.
-/
namespace Go.Proofs.YtfmnbehopdmahaaGreat
open Go.RowKit Go.Maps
attribute [local go_sem] Oper.semAt_some

theorem text_len {s : ByteArray} (h : s.size ≤ 32) : (encText s).length ≤ 42 := by
  rw [encText_len]
  have := enc_le10 (x := s.size) (by omega)
  omega
theorem vec_len {v : List Int} (h : v.length ≤ 7) (hi : InVC v) : (encVC v).length ≤ 80 := by
  unfold encVC
  rw [List.length_append]
  have h1 := enc_le10 (x := v.length) (by omega)
  have h2 := encN_lenC hi
  omega
/-- A seal as bytes. -/
def encSe (e : En) : List Int := encText e.tok ++ encText e.cart ++ enc e.ep.toNat ++ encVC e.cut
structure SeF (e : En) : Prop where
  t : e.tok.size ≤ 32
  c : e.cart.size ≤ 32
  ep : 0 ≤ e.ep ∧ e.ep ≤ 2147483647
  l : e.cut.length ≤ 7
  i : InVC e.cut
theorem rightSe_iff {e : En} (h : RightSe e = true) : SeF e := by
  unfold RightSe at h
  simp only [Bool.and_eq_true, decide_eq_true_eq] at h
  obtain ⟨h1, h2, h3, h4⟩ := h
  unfold rightVC at h4
  simp only [Bool.and_eq_true, decide_eq_true_eq] at h4
  exact ⟨nameS_sizeC h1, nameS_sizeC h2, h3, h4.2.1, h4.1⟩
set_option maxRecDepth 100000 in
set_option maxHeartbeats 1000000 in
theorem appendSeal_T (u : Value) (n : Nat) (bs : List Int) (x : EnM) (B : Nat) (w : World) (hf : SeF x.e) (hv : ∀ V, Below B w V → HV V x.ao x.cap x.e.cut) (hown : w.ownsRow B 5 1 u n (nums bs)) (hB : B ≤ w.heap.size) (hn : n ≤ 140737488300000) :
    Calls Tryz.prog 151 #[u, .agg #[.string x.e.tok, .string x.e.cart, .int .i64 x.e.ep, .slice x.ao x.e.cut.length x.cap]] w (AppP B w n bs (encSe x.e)) := by
  obtain ⟨⟨np, tk, ct, ep, cut⟩, ao1, cap1⟩ := x
  obtain ⟨f1, f2, f3, f4, f5⟩ := hf
  dsimp only at f1 f2 f3 f4 f5 hv ⊢
  obtain ⟨XN, HXN⟩ : ∃ m, Hid (cut.length = m) := ⟨_, hid rfl⟩
  rw [HXN.out] at f4 ⊢
  unfold encSe
  obtain ⟨W, hW⟩ : ∃ W, W = w.alloc (.cells #[.string tk, .string ct, .int .i64 ep, .slice ao1 XN cap1] 37) := ⟨_, rfl⟩
  have HB : Hid (StepT B w W) := by rw [hW]; exact ⟨(Below.refl _ _).alloc hB _, (T8.refl w).alloc _⟩
  have HK : Hid (Blk W w.heap.size 37 [.string tk, .string ct, .int .i64 ep, .slice ao1 XN cap1]) := by rw [hW]; exact Blk.new w _ _
  have HR0 : Hid (W.ownsRow B 5 1 u n (nums bs)) := by rw [hW]; exact hown.alloc _
  have hBW : B ≤ W.heap.size := Nat.le_trans hB HB.out.bel.size
  have l1 : (encText tk).length ≤ 42 := text_len f1
  obtain ⟨a1, HA1⟩ : ∃ a, Hid ((encText tk).length = a) := ⟨_, hid rfl⟩
  have m1 : a1 ≤ 42 := by rw [← HA1.out]; exact l1
  have l2 : (encText ct).length ≤ 42 := text_len f2
  obtain ⟨a2, HA2⟩ : ∃ a, Hid ((encText ct).length = a) := ⟨_, hid rfl⟩
  have m2 : a2 ≤ 42 := by rw [← HA2.out]; exact l2
  have l3 : (enc (ep).toNat).length ≤ 10 := enc_le10 (by omega)
  obtain ⟨a3, HA3⟩ : ∃ a, Hid ((enc (ep).toNat).length = a) := ⟨_, hid rfl⟩
  have m3 : a3 ≤ 10 := by rw [← HA3.out]; exact l3
  have l4 : (encVC cut).length ≤ 80 := vec_len (by rw [HXN.out]; exact f4) f5
  obtain ⟨a4, HA4⟩ : ∃ a, Hid ((encVC cut).length = a) := ⟨_, hid rfl⟩
  have m4 : a4 ≤ 80 := by rw [← HA4.out]; exact l4
  have HT1 : Hid (∀ V v cs, StepT B W V → Hid (V.ownsRow B 5 1 v (n) (nums cs)) → Calls Tryz.prog 153 #[v, .string tk] V fun e w' => ∃ v', e = .returned v' ∧ Hid (w'.ownsRow B 5 1 v' (n + a1) (nums (cs ++ (encText tk)))) ∧ StepT B W w') := fun V v cs hV hr => by
    refine (appendText_T v (n) cs tk B V hr.out (Nat.le_trans hBW hV.bel.size) (by omega)).mono ?_
    rintro e w' ⟨v', rfl, k1, k2, k3⟩
    exact ⟨v', rfl, by rw [← HA1.out]; exact k1, hV.go k2 k3⟩
  have HT2 : Hid (∀ V v cs, StepT B W V → Hid (V.ownsRow B 5 1 v (n + a1) (nums cs)) → Calls Tryz.prog 153 #[v, .string ct] V fun e w' => ∃ v', e = .returned v' ∧ Hid (w'.ownsRow B 5 1 v' (n + a1 + a2) (nums (cs ++ (encText ct)))) ∧ StepT B W w') := fun V v cs hV hr => by
    refine (appendText_T v (n + a1) cs ct B V hr.out (Nat.le_trans hBW hV.bel.size) (by omega)).mono ?_
    rintro e w' ⟨v', rfl, k1, k2, k3⟩
    exact ⟨v', rfl, by rw [← HA2.out]; exact k1, hV.go k2 k3⟩
  have HT3 : Hid (∀ V v cs, StepT B W V → Hid (V.ownsRow B 5 1 v (n + a1 + a2) (nums cs)) → Calls Tryz.prog 101 #[v, .int .i64 ep] V fun e w' => ∃ v', e = .returned v' ∧ Hid (w'.ownsRow B 5 1 v' (n + a1 + a2 + a3) (nums (cs ++ (enc (ep).toNat)))) ∧ StepT B W w') := fun V v cs hV hr => by
    refine (appendNumber_T v (n + a1 + a2) cs (ep) B V (f3.1) (by omega) hr.out (Nat.le_trans hBW hV.bel.size) (by omega)).mono ?_
    rintro e w' ⟨v', rfl, k1, k2, k3⟩
    exact ⟨v', rfl, by rw [← HA3.out]; exact k1, hV.go k2 k3⟩
  have HT4 : Hid (∀ V v cs, StepT B W V → Hid (V.ownsRow B 5 1 v (n + a1 + a2 + a3) (nums cs)) → Calls Tryz.prog 106 #[v, .slice ao1 XN cap1] V fun e w' => ∃ v', e = .returned v' ∧ Hid (w'.ownsRow B 5 1 v' (n + a1 + a2 + a3 + a4) (nums (cs ++ (encVC cut)))) ∧ StepT B W w') := fun V v cs hV hr => by
    refine (appendVector_T v (n + a1 + a2 + a3) cs ao1 cap1 cut XN HXN.out B V (fun U hU => hv U (HB.out.bel.trans (hV.bel.trans hU))) f4 f5 hr.out (Nat.le_trans hBW hV.bel.size) (by omega)).mono ?_
    rintro e w' ⟨v', rfl, k1, k2, k3⟩
    exact ⟨v', rfl, by rw [← HA4.out]; exact k1, hV.go k2 k3⟩
  have HLE : Hid (n + (encText tk ++ encText ct ++ enc ep.toNat ++ encVC cut).length = n + a1 + a2 + a3 + a4) := by
    show _ = _
    simp only [List.length_append, HA1.out, HA2.out, HA3.out, HA4.out]
    omega
  have HEN : Hid (bs ++ (encText tk ++ encText ct ++ enc ep.toNat ++ encVC cut) = bs ++ (encText tk) ++ (encText ct) ++ (enc (ep).toNat) ++ (encVC cut)) := by show _ = _; simp only [List.append_assoc]
  have HW := hid hW
  have c0 := HK.out.cell (i := 0) rfl
  have c1 := HK.out.cell (i := 1) rfl
  have c2 := HK.out.cell (i := 2) rfl
  have c3 := HK.out.cell (i := 3) rfl
  rw [HW.out] at c0 c1 c2 c3
  clear hW hown l1 m1 HA1 l2 m2 HA2 l3 m3 HA3 l4 m4 HA4 f1 f2 f3 f4 f5 hv
  go_enter Tryz.func151, Tryz.ntmps151
  go_wp2_with fail
  rw [← HW.out]
  obtain ⟨p, hp⟩ : ∃ p, p = w.heap.size := ⟨_, rfl⟩
  rw [← hp] at HK ⊢
  clear hp c0 c1 c2 c3
  refine (HT1.out _ _ _ (StepT.start _ _) HR0).mono ?_
  rintro e w1 ⟨v1, rfl, HR1, hs1⟩
  have HS1 := hid hs1
  have hk1 := hs1.t8.blk HK.out (by decide)
  have c0 := hk1.cell (i := 0) rfl
  have c1 := hk1.cell (i := 1) rfl
  have c2 := hk1.cell (i := 2) rfl
  have c3 := hk1.cell (i := 3) rfl
  clear hs1 hk1 HT1
  go_wp2_with fail
  clear c0 c1 c2 c3
  refine (HT2.out _ _ _ (HS1.out) HR1).mono ?_
  rintro e w2 ⟨v2, rfl, HR2, hs2⟩
  have HS2 := hid hs2
  have hk2 := hs2.t8.blk HK.out (by decide)
  have c0 := hk2.cell (i := 0) rfl
  have c1 := hk2.cell (i := 1) rfl
  have c2 := hk2.cell (i := 2) rfl
  have c3 := hk2.cell (i := 3) rfl
  clear hs2 hk2 HT2
  go_wp2_with fail
  clear c0 c1 c2 c3
  refine (HT3.out _ _ _ (HS2.out) HR2).mono ?_
  rintro e w3 ⟨v3, rfl, HR3, hs3⟩
  have HS3 := hid hs3
  have hk3 := hs3.t8.blk HK.out (by decide)
  have c0 := hk3.cell (i := 0) rfl
  have c1 := hk3.cell (i := 1) rfl
  have c2 := hk3.cell (i := 2) rfl
  have c3 := hk3.cell (i := 3) rfl
  clear hs3 hk3 HT3
  go_wp2_with fail
  clear c0 c1 c2 c3
  refine (HT4.out _ _ _ (HS3.out) HR3).mono ?_
  rintro e w4 ⟨v4, rfl, HR4, hs4⟩
  have HS4 := hid hs4
  have hk4 := hs4.t8.blk HK.out (by decide)
  have c0 := hk4.cell (i := 0) rfl
  have c1 := hk4.cell (i := 1) rfl
  have c2 := hk4.cell (i := 2) rfl
  have c3 := hk4.cell (i := 3) rfl
  clear hs4 hk4 HT4
  have HF : Hid (StepT B w w4) := ⟨HB.out.bel.trans HS4.out.bel, HB.out.t8.trans HS4.out.t8⟩
  go_wp2
  go_ret
  refine ⟨_, rfl, ?_, HF.out.bel, HF.out.t8⟩
  rw [HLE.out, HEN.out]
  exact HR4.out
/-- An event as bytes. -/
def encEvC (e : Ev) : List Int := enc e.o.toNat ++ enc e.s.toNat ++ encVC e.deps ++ encText e.cart ++ enc e.epoch.toNat ++ encText e.sku ++ enc e.qty.toNat ++ encBC e.clears
structure EvF (e : Ev) : Prop where
  o : 0 ≤ e.o ∧ e.o ≤ 6
  s : 0 ≤ e.s ∧ e.s ≤ 2147483647
  l : e.deps.length ≤ 7
  i : InVC e.deps
  c : e.cart.size ≤ 32
  ep : 0 ≤ e.epoch ∧ e.epoch ≤ 2147483647
  k : e.sku.size ≤ 32
  q : 0 ≤ e.qty ∧ e.qty ≤ 1000
theorem rightEvC_iff {e : Ev} (h : RightEvC e = true) : EvF e := by
  unfold RightEvC at h
  simp only [Bool.and_eq_true, decide_eq_true_eq] at h
  obtain ⟨h1, h2, h3, h4, h5, h6, h7⟩ := h
  unfold rightVC at h3
  simp only [Bool.and_eq_true, decide_eq_true_eq] at h3
  exact ⟨h1, h2, h3.2.1, h3.1, nameS_sizeC h4, h5, nameS_sizeC h6, h7⟩
set_option maxRecDepth 100000 in
set_option maxHeartbeats 1000000 in
theorem appendEvent_T (u : Value) (n : Nat) (bs : List Int) (x : EvM) (B : Nat) (w : World) (hf : EvF x.e) (hv : ∀ V, Below B w V → HV V x.ao x.cap x.e.deps) (hown : w.ownsRow B 5 1 u n (nums bs)) (hB : B ≤ w.heap.size) (hn : n ≤ 140737488300000) :
    Calls Tryz.prog 108 #[u, x.val] w (AppP B w n bs (encEvC x.e)) := by
  obtain ⟨⟨o, s, dp, ct, ep, sk, qt, cl⟩, ao1, cap1⟩ := x
  obtain ⟨f1, f2, f4, f3, f5, f6, f7, f8⟩ := hf
  dsimp only [EvM.val] at f1 f2 f3 f4 f5 f6 f7 f8 hv ⊢
  obtain ⟨XN, HXN⟩ : ∃ m, Hid (dp.length = m) := ⟨_, hid rfl⟩
  rw [HXN.out] at f4 ⊢
  unfold encEvC
  obtain ⟨W, hW⟩ : ∃ W, W = w.alloc (.cells #[.int .i64 o, .int .i64 s, .slice ao1 XN cap1, .string ct, .int .i64 ep, .string sk, .int .i64 qt, .bool cl] 97) := ⟨_, rfl⟩
  have HB : Hid (StepT B w W) := by rw [hW]; exact ⟨(Below.refl _ _).alloc hB _, (T8.refl w).alloc _⟩
  have HK : Hid (Blk W w.heap.size 97 [.int .i64 o, .int .i64 s, .slice ao1 XN cap1, .string ct, .int .i64 ep, .string sk, .int .i64 qt, .bool cl]) := by rw [hW]; exact Blk.new w _ _
  have HR0 : Hid (W.ownsRow B 5 1 u n (nums bs)) := by rw [hW]; exact hown.alloc _
  have hBW : B ≤ W.heap.size := Nat.le_trans hB HB.out.bel.size
  have l1 : (enc (o).toNat).length ≤ 10 := enc_le10 (by omega)
  obtain ⟨a1, HA1⟩ : ∃ a, Hid ((enc (o).toNat).length = a) := ⟨_, hid rfl⟩
  have m1 : a1 ≤ 10 := by rw [← HA1.out]; exact l1
  have l2 : (enc (s).toNat).length ≤ 10 := enc_le10 (by omega)
  obtain ⟨a2, HA2⟩ : ∃ a, Hid ((enc (s).toNat).length = a) := ⟨_, hid rfl⟩
  have m2 : a2 ≤ 10 := by rw [← HA2.out]; exact l2
  have l3 : (encVC dp).length ≤ 80 := vec_len (by rw [HXN.out]; exact f4) f3
  obtain ⟨a3, HA3⟩ : ∃ a, Hid ((encVC dp).length = a) := ⟨_, hid rfl⟩
  have m3 : a3 ≤ 80 := by rw [← HA3.out]; exact l3
  have l4 : (encText ct).length ≤ 42 := text_len f5
  obtain ⟨a4, HA4⟩ : ∃ a, Hid ((encText ct).length = a) := ⟨_, hid rfl⟩
  have m4 : a4 ≤ 42 := by rw [← HA4.out]; exact l4
  have l5 : (enc (ep).toNat).length ≤ 10 := enc_le10 (by omega)
  obtain ⟨a5, HA5⟩ : ∃ a, Hid ((enc (ep).toNat).length = a) := ⟨_, hid rfl⟩
  have m5 : a5 ≤ 10 := by rw [← HA5.out]; exact l5
  have l6 : (encText sk).length ≤ 42 := text_len f7
  obtain ⟨a6, HA6⟩ : ∃ a, Hid ((encText sk).length = a) := ⟨_, hid rfl⟩
  have m6 : a6 ≤ 42 := by rw [← HA6.out]; exact l6
  have l7 : (enc (qt).toNat).length ≤ 10 := enc_le10 (by omega)
  obtain ⟨a7, HA7⟩ : ∃ a, Hid ((enc (qt).toNat).length = a) := ⟨_, hid rfl⟩
  have m7 : a7 ≤ 10 := by rw [← HA7.out]; exact l7
  have l8 : (encBC cl).length ≤ 2 := Nat.le_succ_of_le (Nat.le_refl _)
  obtain ⟨a8, HA8⟩ : ∃ a, Hid ((encBC cl).length = a) := ⟨_, hid rfl⟩
  have m8 : a8 ≤ 2 := by rw [← HA8.out]; exact l8
  have HT1 : Hid (∀ V v cs, StepT B W V → Hid (V.ownsRow B 5 1 v (n) (nums cs)) → Calls Tryz.prog 101 #[v, .int .i64 o] V fun e w' => ∃ v', e = .returned v' ∧ Hid (w'.ownsRow B 5 1 v' (n + a1) (nums (cs ++ (enc (o).toNat)))) ∧ StepT B W w') := fun V v cs hV hr => by
    refine (appendNumber_T v (n) cs (o) B V (f1.1) (by omega) hr.out (Nat.le_trans hBW hV.bel.size) (by omega)).mono ?_
    rintro e w' ⟨v', rfl, k1, k2, k3⟩
    exact ⟨v', rfl, by rw [← HA1.out]; exact k1, hV.go k2 k3⟩
  have HT2 : Hid (∀ V v cs, StepT B W V → Hid (V.ownsRow B 5 1 v (n + a1) (nums cs)) → Calls Tryz.prog 101 #[v, .int .i64 s] V fun e w' => ∃ v', e = .returned v' ∧ Hid (w'.ownsRow B 5 1 v' (n + a1 + a2) (nums (cs ++ (enc (s).toNat)))) ∧ StepT B W w') := fun V v cs hV hr => by
    refine (appendNumber_T v (n + a1) cs (s) B V (f2.1) (by omega) hr.out (Nat.le_trans hBW hV.bel.size) (by omega)).mono ?_
    rintro e w' ⟨v', rfl, k1, k2, k3⟩
    exact ⟨v', rfl, by rw [← HA2.out]; exact k1, hV.go k2 k3⟩
  have HT3 : Hid (∀ V v cs, StepT B W V → Hid (V.ownsRow B 5 1 v (n + a1 + a2) (nums cs)) → Calls Tryz.prog 106 #[v, .slice ao1 XN cap1] V fun e w' => ∃ v', e = .returned v' ∧ Hid (w'.ownsRow B 5 1 v' (n + a1 + a2 + a3) (nums (cs ++ (encVC dp)))) ∧ StepT B W w') := fun V v cs hV hr => by
    refine (appendVector_T v (n + a1 + a2) cs ao1 cap1 dp XN HXN.out B V (fun U hU => hv U (HB.out.bel.trans (hV.bel.trans hU))) f4 f3 hr.out (Nat.le_trans hBW hV.bel.size) (by omega)).mono ?_
    rintro e w' ⟨v', rfl, k1, k2, k3⟩
    exact ⟨v', rfl, by rw [← HA3.out]; exact k1, hV.go k2 k3⟩
  have HT4 : Hid (∀ V v cs, StepT B W V → Hid (V.ownsRow B 5 1 v (n + a1 + a2 + a3) (nums cs)) → Calls Tryz.prog 153 #[v, .string ct] V fun e w' => ∃ v', e = .returned v' ∧ Hid (w'.ownsRow B 5 1 v' (n + a1 + a2 + a3 + a4) (nums (cs ++ (encText ct)))) ∧ StepT B W w') := fun V v cs hV hr => by
    refine (appendText_T v (n + a1 + a2 + a3) cs ct B V hr.out (Nat.le_trans hBW hV.bel.size) (by omega)).mono ?_
    rintro e w' ⟨v', rfl, k1, k2, k3⟩
    exact ⟨v', rfl, by rw [← HA4.out]; exact k1, hV.go k2 k3⟩
  have HT5 : Hid (∀ V v cs, StepT B W V → Hid (V.ownsRow B 5 1 v (n + a1 + a2 + a3 + a4) (nums cs)) → Calls Tryz.prog 101 #[v, .int .i64 ep] V fun e w' => ∃ v', e = .returned v' ∧ Hid (w'.ownsRow B 5 1 v' (n + a1 + a2 + a3 + a4 + a5) (nums (cs ++ (enc (ep).toNat)))) ∧ StepT B W w') := fun V v cs hV hr => by
    refine (appendNumber_T v (n + a1 + a2 + a3 + a4) cs (ep) B V (f6.1) (by omega) hr.out (Nat.le_trans hBW hV.bel.size) (by omega)).mono ?_
    rintro e w' ⟨v', rfl, k1, k2, k3⟩
    exact ⟨v', rfl, by rw [← HA5.out]; exact k1, hV.go k2 k3⟩
  have HT6 : Hid (∀ V v cs, StepT B W V → Hid (V.ownsRow B 5 1 v (n + a1 + a2 + a3 + a4 + a5) (nums cs)) → Calls Tryz.prog 153 #[v, .string sk] V fun e w' => ∃ v', e = .returned v' ∧ Hid (w'.ownsRow B 5 1 v' (n + a1 + a2 + a3 + a4 + a5 + a6) (nums (cs ++ (encText sk)))) ∧ StepT B W w') := fun V v cs hV hr => by
    refine (appendText_T v (n + a1 + a2 + a3 + a4 + a5) cs sk B V hr.out (Nat.le_trans hBW hV.bel.size) (by omega)).mono ?_
    rintro e w' ⟨v', rfl, k1, k2, k3⟩
    exact ⟨v', rfl, by rw [← HA6.out]; exact k1, hV.go k2 k3⟩
  have HT7 : Hid (∀ V v cs, StepT B W V → Hid (V.ownsRow B 5 1 v (n + a1 + a2 + a3 + a4 + a5 + a6) (nums cs)) → Calls Tryz.prog 101 #[v, .int .i64 qt] V fun e w' => ∃ v', e = .returned v' ∧ Hid (w'.ownsRow B 5 1 v' (n + a1 + a2 + a3 + a4 + a5 + a6 + a7) (nums (cs ++ (enc (qt).toNat)))) ∧ StepT B W w') := fun V v cs hV hr => by
    refine (appendNumber_T v (n + a1 + a2 + a3 + a4 + a5 + a6) cs (qt) B V (f8.1) (by omega) hr.out (Nat.le_trans hBW hV.bel.size) (by omega)).mono ?_
    rintro e w' ⟨v', rfl, k1, k2, k3⟩
    exact ⟨v', rfl, by rw [← HA7.out]; exact k1, hV.go k2 k3⟩
  have HT8 : Hid (∀ V v cs, StepT B W V → Hid (V.ownsRow B 5 1 v (n + a1 + a2 + a3 + a4 + a5 + a6 + a7) (nums cs)) → Calls Tryz.prog 150 #[v, .bool cl] V fun e w' => ∃ v', e = .returned v' ∧ Hid (w'.ownsRow B 5 1 v' (n + a1 + a2 + a3 + a4 + a5 + a6 + a7 + a8) (nums (cs ++ (encBC cl)))) ∧ StepT B W w') := fun V v cs hV hr => by
    refine (appendTruth_T v (n + a1 + a2 + a3 + a4 + a5 + a6 + a7) cs cl B V hr.out (Nat.le_trans hBW hV.bel.size) (by omega)).mono ?_
    rintro e w' ⟨v', rfl, k1, k2, k3⟩
    exact ⟨v', rfl, by rw [← HA8.out]; exact k1, hV.go k2 k3⟩
  have HLE : Hid (n + (enc o.toNat ++ enc s.toNat ++ encVC dp ++ encText ct ++ enc ep.toNat ++ encText sk ++ enc qt.toNat ++ encBC cl).length = n + a1 + a2 + a3 + a4 + a5 + a6 + a7 + a8) := by
    show _ = _
    simp only [List.length_append, HA1.out, HA2.out, HA3.out, HA4.out, HA5.out, HA6.out, HA7.out, HA8.out]
    omega
  have HEN : Hid (bs ++ (enc o.toNat ++ enc s.toNat ++ encVC dp ++ encText ct ++ enc ep.toNat ++ encText sk ++ enc qt.toNat ++ encBC cl) = bs ++ (enc (o).toNat) ++ (enc (s).toNat) ++ (encVC dp) ++ (encText ct) ++ (enc (ep).toNat) ++ (encText sk) ++ (enc (qt).toNat) ++ (encBC cl)) := by show _ = _; simp only [List.append_assoc]
  have HW := hid hW
  have c0 := HK.out.cell (i := 0) rfl
  have c1 := HK.out.cell (i := 1) rfl
  have c2 := HK.out.cell (i := 2) rfl
  have c3 := HK.out.cell (i := 3) rfl
  have c4 := HK.out.cell (i := 4) rfl
  have c5 := HK.out.cell (i := 5) rfl
  have c6 := HK.out.cell (i := 6) rfl
  have c7 := HK.out.cell (i := 7) rfl
  rw [HW.out] at c0 c1 c2 c3 c4 c5 c6 c7
  clear hW hown l1 m1 HA1 l2 m2 HA2 l3 m3 HA3 l4 m4 HA4 l5 m5 HA5 l6 m6 HA6 l7 m7 HA7 l8 m8 HA8 f1 f2 f3 f4 f5 f6 f7 f8 hv
  go_enter Tryz.func108, Tryz.ntmps108
  go_wp2_with fail
  rw [← HW.out]
  obtain ⟨p, hp⟩ : ∃ p, p = w.heap.size := ⟨_, rfl⟩
  rw [← hp] at HK ⊢
  clear hp c0 c1 c2 c3 c4 c5 c6 c7
  refine (HT1.out _ _ _ (StepT.start _ _) HR0).mono ?_
  rintro e w1 ⟨v1, rfl, HR1, hs1⟩
  have HS1 := hid hs1
  have hk1 := hs1.t8.blk HK.out (by decide)
  have c0 := hk1.cell (i := 0) rfl
  have c1 := hk1.cell (i := 1) rfl
  have c2 := hk1.cell (i := 2) rfl
  have c3 := hk1.cell (i := 3) rfl
  have c4 := hk1.cell (i := 4) rfl
  have c5 := hk1.cell (i := 5) rfl
  have c6 := hk1.cell (i := 6) rfl
  have c7 := hk1.cell (i := 7) rfl
  clear hs1 hk1 HT1
  go_wp2_with fail
  clear c0 c1 c2 c3 c4 c5 c6 c7
  refine (HT2.out _ _ _ (HS1.out) HR1).mono ?_
  rintro e w2 ⟨v2, rfl, HR2, hs2⟩
  have HS2 := hid hs2
  have hk2 := hs2.t8.blk HK.out (by decide)
  have c0 := hk2.cell (i := 0) rfl
  have c1 := hk2.cell (i := 1) rfl
  have c2 := hk2.cell (i := 2) rfl
  have c3 := hk2.cell (i := 3) rfl
  have c4 := hk2.cell (i := 4) rfl
  have c5 := hk2.cell (i := 5) rfl
  have c6 := hk2.cell (i := 6) rfl
  have c7 := hk2.cell (i := 7) rfl
  clear hs2 hk2 HT2
  go_wp2_with fail
  clear c0 c1 c2 c3 c4 c5 c6 c7
  refine (HT3.out _ _ _ (HS2.out) HR2).mono ?_
  rintro e w3 ⟨v3, rfl, HR3, hs3⟩
  have HS3 := hid hs3
  have hk3 := hs3.t8.blk HK.out (by decide)
  have c0 := hk3.cell (i := 0) rfl
  have c1 := hk3.cell (i := 1) rfl
  have c2 := hk3.cell (i := 2) rfl
  have c3 := hk3.cell (i := 3) rfl
  have c4 := hk3.cell (i := 4) rfl
  have c5 := hk3.cell (i := 5) rfl
  have c6 := hk3.cell (i := 6) rfl
  have c7 := hk3.cell (i := 7) rfl
  clear hs3 hk3 HT3
  go_wp2_with fail
  clear c0 c1 c2 c3 c4 c5 c6 c7
  refine (HT4.out _ _ _ (HS3.out) HR3).mono ?_
  rintro e w4 ⟨v4, rfl, HR4, hs4⟩
  have HS4 := hid hs4
  have hk4 := hs4.t8.blk HK.out (by decide)
  have c0 := hk4.cell (i := 0) rfl
  have c1 := hk4.cell (i := 1) rfl
  have c2 := hk4.cell (i := 2) rfl
  have c3 := hk4.cell (i := 3) rfl
  have c4 := hk4.cell (i := 4) rfl
  have c5 := hk4.cell (i := 5) rfl
  have c6 := hk4.cell (i := 6) rfl
  have c7 := hk4.cell (i := 7) rfl
  clear hs4 hk4 HT4
  go_wp2_with fail
  clear c0 c1 c2 c3 c4 c5 c6 c7
  refine (HT5.out _ _ _ (HS4.out) HR4).mono ?_
  rintro e w5 ⟨v5, rfl, HR5, hs5⟩
  have HS5 := hid hs5
  have hk5 := hs5.t8.blk HK.out (by decide)
  have c0 := hk5.cell (i := 0) rfl
  have c1 := hk5.cell (i := 1) rfl
  have c2 := hk5.cell (i := 2) rfl
  have c3 := hk5.cell (i := 3) rfl
  have c4 := hk5.cell (i := 4) rfl
  have c5 := hk5.cell (i := 5) rfl
  have c6 := hk5.cell (i := 6) rfl
  have c7 := hk5.cell (i := 7) rfl
  clear hs5 hk5 HT5
  go_wp2_with fail
  clear c0 c1 c2 c3 c4 c5 c6 c7
  refine (HT6.out _ _ _ (HS5.out) HR5).mono ?_
  rintro e w6 ⟨v6, rfl, HR6, hs6⟩
  have HS6 := hid hs6
  have hk6 := hs6.t8.blk HK.out (by decide)
  have c0 := hk6.cell (i := 0) rfl
  have c1 := hk6.cell (i := 1) rfl
  have c2 := hk6.cell (i := 2) rfl
  have c3 := hk6.cell (i := 3) rfl
  have c4 := hk6.cell (i := 4) rfl
  have c5 := hk6.cell (i := 5) rfl
  have c6 := hk6.cell (i := 6) rfl
  have c7 := hk6.cell (i := 7) rfl
  clear hs6 hk6 HT6
  go_wp2_with fail
  clear c0 c1 c2 c3 c4 c5 c6 c7
  refine (HT7.out _ _ _ (HS6.out) HR6).mono ?_
  rintro e w7 ⟨v7, rfl, HR7, hs7⟩
  have HS7 := hid hs7
  have hk7 := hs7.t8.blk HK.out (by decide)
  have c0 := hk7.cell (i := 0) rfl
  have c1 := hk7.cell (i := 1) rfl
  have c2 := hk7.cell (i := 2) rfl
  have c3 := hk7.cell (i := 3) rfl
  have c4 := hk7.cell (i := 4) rfl
  have c5 := hk7.cell (i := 5) rfl
  have c6 := hk7.cell (i := 6) rfl
  have c7 := hk7.cell (i := 7) rfl
  clear hs7 hk7 HT7
  go_wp2_with fail
  clear c0 c1 c2 c3 c4 c5 c6 c7
  refine (HT8.out _ _ _ (HS7.out) HR7).mono ?_
  rintro e w8 ⟨v8, rfl, HR8, hs8⟩
  have HS8 := hid hs8
  have hk8 := hs8.t8.blk HK.out (by decide)
  have c0 := hk8.cell (i := 0) rfl
  have c1 := hk8.cell (i := 1) rfl
  have c2 := hk8.cell (i := 2) rfl
  have c3 := hk8.cell (i := 3) rfl
  have c4 := hk8.cell (i := 4) rfl
  have c5 := hk8.cell (i := 5) rfl
  have c6 := hk8.cell (i := 6) rfl
  have c7 := hk8.cell (i := 7) rfl
  clear hs8 hk8 HT8
  have HF : Hid (StepT B w w8) := ⟨HB.out.bel.trans HS8.out.bel, HB.out.t8.trans HS8.out.t8⟩
  go_wp2
  go_ret
  refine ⟨_, rfl, ?_, HF.out.bel, HF.out.t8⟩
  rw [HLE.out, HEN.out]
  exact HR8.out
end Go.Proofs.YtfmnbehopdmahaaGreat
