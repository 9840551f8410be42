/-
  pannierlaw15.BallotPicks answers true at every input.
-/
import Derived.Test.YtdceenejijigdaaBalK
import Derived.Test.YtdceenejijigdaaBalH
import Derived.Test.YtdceenejijigdaaSameB
namespace Go.Proofs.Ytdceenejijigdaa
open Go.RowKit Go.Maps

theorem ownVo_made (w : World) (B : Nat) (hB : B ≤ w.heap.size) : (w.alloc (.cells #[] 55)).ownsRow B 55 8 (.slice (some ⟨w.heap.size, 0, none⟩) 0 0) 0 (flatVo []) :=
  ⟨rfl, .inr ⟨w.heap.size, 0, #[], rfl, hB, World.alloc_heap_new w _, Nat.le_refl _, Nat.zero_le _, rfl, rfl⟩⟩
theorem flatVo_at {xs : List VoM} {i : Nat} {u : Value} (h : (flatVo xs)[i]? = some u) : ∃ j, ∃ hj : j < xs.length, ∃ c, c < 8 ∧ i = j * 8 + c ∧ xs[j].cells[c]? = some u := by
  have hi : i < xs.length * 8 := by rw [← flatVo_len]; exact (List.getElem?_eq_some_iff.1 h).1
  have hj : i / 8 < xs.length := by omega
  have hc : i % 8 < (xs[i / 8]).cells.length := by show _ < 8; omega
  refine ⟨i / 8, hj, i % 8, by omega, by omega, ?_⟩
  have h2 := flatVo_get xs (i / 8) hj (i % 8) _ (List.getElem?_eq_getElem hc)
  rw [show i / 8 * 8 + i % 8 = i by omega, h] at h2
  rw [List.getElem?_eq_getElem hc, Option.some.inj h2]
theorem flatVo_one (xs : List VoM) : ∀ u ∈ flatVo xs, u.oneCell' = true := by
  intro u hu
  obtain ⟨x, _, hx⟩ := List.mem_flatMap.1 hu
  exact vo_one x u hx
theorem HeldVo.news {w : World} {ad : Addr} {xs : List VoM} (h : HeldVo w (some ad) xs) : ∀ j u, (flatVo xs)[j]? = some u → w.cell? (ad.add j) = some u := by
  intro i u hu
  obtain ⟨j, hj, c, _, rfl, hc⟩ := flatVo_at hu
  rcases h.2 with h0 | ⟨b, off, e, _, h3⟩
  · subst h0
    cases hj
  · cases e
    have := h3 j hj c u hc
    rw [Addr.add_lit, ← Nat.add_assoc]
    exact this
/-- append([]api.Voted{}, x...): a new row that holds x's votes. -/
theorem wpList_append_copyVo {ops : Array Oper} {rest : List Oper} {o : Oper} {a : Act} {Q : Exit → Act → World → Prop} (W : World) (hgd : o.guard = none) (s x : Operand)
    (ho : o.op = .call { callee := .builtin .append, args := #[s, x], argTypes := #[31, 31] })
    (hs : a.eval s = .slice (some ⟨W.heap.size, 0, none⟩) 0 0) (ao : Option Addr) (c : Nat) (xs : List VoM) (n : Nat) (hn : xs.length = n) (hx : a.eval x = .slice ao n c) (hh : HeldVo W ao xs) (hl : n ≤ 1466015503701)
    (h : ∀ bo cp w', HeldVo w' bo xs → Below W.heap.size W w' → wpList Try.prog ops Q rest (a.put o.dst (.slice bo n cp)) w') :
    wpList Try.prog ops Q (o :: rest) a (W.alloc (.cells #[] 55)) := by
  obtain ⟨iI, hj, hy0, hy1, hy2⟩ := info_parts Try.infoVo
  have hbel : Below W.heap.size W (W.alloc (.cells #[] 55)) := (Below.refl _ _).alloc (Nat.le_refl _) _
  have fin : ∀ (v' : Value) (w' : World), w'.ownsRow W.heap.size 55 8 v' n (flatVo xs) → Below W.heap.size W w' → wpList Try.prog ops Q rest (a.put o.dst v') w' := by
    intro v' w' hown hb
    obtain ⟨eo, cap, rfl, _, hv⟩ := heldVo_of_own hn hown (hh.1.below hb)
    exact h eo cap w' hv hb
  cases ao with
  | none =>
    have hx0 : xs = [] := by
      rcases hh.2 with h0 | ⟨b, off, e, _⟩
      · exact h0
      · cases e
    subst hx0
    obtain rfl : 0 = n := hn
    refine wpList_plain hgd fun K hK => ?_
    have hr := run_append_noneI (P := Try.prog) (W.alloc (.cells #[] 55)) W.heap.size 31 o.type 55 iI 8 Try.underlying31 hj _ 0 c _ (ownVo_made W W.heap.size (Nat.le_refl _))
    unfold Oper.wp execOp
    simp only [ho, resolve, invoke, builtin, Sem.run_bind, Sem.run_pure, Result.andThen_ok, List.map_toArray, List.map_cons, List.map_nil, hs, hx, hr]
    exact hK _ _ (fin _ _ (ownVo_made W W.heap.size (Nat.le_refl _)) hbel)
  | some ad =>
    refine wpList_append_own_at _ hgd s x 31 ho W.heap.size 55 iI _ 8 96 Try.underlying31 hj hy0 hy1 hy2 rfl (by decide) _ 0 (flatVo []) hs (ownVo_made W W.heap.size (Nat.le_refl _)) ad n c (flatVo xs) hx (by rw [flatVo_len, hn]) (HeldVo.news (hh.below hbel)) (flatVo_one xs) (by unfold maxLen; omega) (by omega) (by simp) ?_
    intro v' w' hown hgrow _ _
    refine fin v' w' (by simpa [flatVo] using hown) (hbel.grown hgrow (by simp) (fun k e => ?_))
    cases e
    exact Nat.le_refl _
/-- The entry that is kept, and whether there is one. -/
def pickE (xs : List VoM) (s : Int) : En := if bestTo xs s xs.length < 0 then noopEn else (xs.getD (bestTo xs s xs.length).toNat default).en.e
def pickT (xs : List VoM) (s : Int) : Bool := !decide (bestTo xs s xs.length < 0)
def Told15 (w : World) (xs : List VoM) (s : Int) (e : Ending) (w' : World) : Prop := ∃ a c, e = .returned (.tuple #[EnM.val ⟨pickE xs s, a, c⟩, .bool (pickT xs s)]) ∧ HV w' a c (pickE xs s).cut ∧ Below w.heap.size w w'
theorem told15_pick {w : World} {xs : List VoM} {s : Int} {e : Ending} {w' : World} (h : PickP w xs s e w') : Told15 w xs s e w' := by
  rcases h with ⟨h0, rfl, hb⟩ | ⟨b, h0, hbl, bo, cp, rfl, hv, hb⟩
  · refine ⟨none, 0, ?_, ?_, hb⟩
    · rw [show pickE xs s = noopEn by unfold pickE; rw [h0, if_pos (by decide)], show pickT xs s = false by unfold pickT; rw [h0]; rfl]
    · rw [show pickE xs s = noopEn by unfold pickE; rw [h0, if_pos (by decide)]]
      exact hv_none w' 0
  · have e1 : pickE xs s = (xs.getD b default).en.e := by unfold pickE; rw [h0, if_neg (by omega)]; rfl
    have e2 : pickT xs s = true := by unfold pickT; rw [h0, decide_eq_false (by omega)]; rfl
    exact ⟨bo, cp, by rw [e1, e2], by rw [e1]; exact hv, hb⟩
theorem told15_rpick {w : World} {ao : Option Addr} {xs : List VoM} {s : Int} {e : Ending} {w' : World} (hh : HeldVo w ao xs) (h : RPickP w xs s e w') : Told15 w xs s e w' := by
  rcases h with ⟨h0, rfl, hb⟩ | ⟨b, h0, hbl, rfl, hb⟩
  · refine ⟨none, 0, ?_, ?_, hb⟩
    · rw [show pickE xs s = noopEn by unfold pickE; rw [h0, if_pos (by decide)], show pickT xs s = false by unfold pickT; rw [h0]; rfl]
    · rw [show pickE xs s = noopEn by unfold pickE; rw [h0, if_pos (by decide)]]
      exact hv_none w' 0
  · have e1 : pickE xs s = (xs.getD b default).en.e := by unfold pickE; rw [h0, if_neg (by omega)]; rfl
    have e2 : pickT xs s = true := by unfold pickT; rw [h0, decide_eq_false (by omega)]; rfl
    have hv := ((hh.below hb).1 _ (List.getElem_mem hbl)).en.cut
    rw [← vo_getD hbl] at hv
    exact ⟨_, _, by rw [e1, e2], by rw [e1]; exact hv, hb⟩
set_option maxRecDepth 1000000 in
set_option maxHeartbeats 2000000 in
theorem ballotPicks_walk (ao : Option Addr) (cap : Nat) (xs : List VoM) (s : Int) (w : World) (hx : HeldVo w ao xs) (hl : xs.length ≤ 1466015503701) (_hs : -9223372036854775808 ≤ s ∧ s ≤ 9223372036854775807) :
    Calls Try.prog 4 #[.slice ao xs.length cap, .int .i64 s] w fun e w' => e = .returned (.bool true) ∧ Below w.heap.size w w' := by
  have H := hid hx
  obtain ⟨n, HN⟩ : ∃ n, Hid (xs.length = n) := ⟨_, hid rfl⟩
  rw [HN.out] at hl ⊢
  clear hx _hs
  go_enter Try.func4, Try.ntmps4
  go_wp2_with (at_builtin; refine wpList_append_copyVo w rfl _ _ rfl rfl ao cap xs n HN.out rfl H.out hl ?_; intro bo cp w1 hv1 hb1; have HV1 := hid hv1; have HB1 := hid hb1; clear hv1 hb1)
  refine (pickBal w1 bo cp xs n HN.out s HV1.out hl).mono ?_
  intro e w2 hP
  obtain ⟨a1, c1, rfl, hv2, hb2⟩ := told15_pick hP
  have HX2 := hid (H.out.below (bt' HB1.out hb2))
  have HB2 := hid (bt' HB1.out hb2)
  have HR := hid (fun V (hV : HeldVo V ao xs) => (rpickBal V ao cap xs n HN.out s hV hl).mono fun e w' h => told15_rpick hV h)
  unfold Told15 at HR
  have HV2 := hid hv2
  clear hP hv2 hb2
  obtain ⟨tb, HTB⟩ : ∃ b, Hid (pickT xs s = b) := ⟨_, hid rfl⟩
  obtain ⟨e0, HE0⟩ : ∃ b, Hid (pickE xs s = b) := ⟨_, hid rfl⟩
  rw [HTB.out, HE0.out] at HR
  rw [HE0.out] at HV2
  rw [HTB.out, HE0.out]
  clear HTB HE0
  obtain ⟨np, tk, ct, ep, cut⟩ := e0
  obtain ⟨m, HM⟩ : ∃ m, Hid (cut.length = m) := ⟨_, hid rfl⟩
  simp only [EnM.val] at HR HV2 ⊢
  rw [HM.out] at HR ⊢
  obtain ⟨V3, hV3⟩ : ∃ V, V = w2.alloc (.cells #[.bool np, .string tk, .string ct, .int .i64 ep, .slice a1 m c1] 36) := ⟨_, rfl⟩
  have HB23 : Hid (Below w2.heap.size w2 V3) := by rw [hV3]; exact (Below.refl _ _).alloc (Nat.le_refl _) _
  have HK3 : Hid (Blk V3 w2.heap.size 36 [.bool np, .string tk, .string ct, .int .i64 ep, .slice a1 m c1]) := by rw [hV3]; exact Blk.new w2 _ _
  have HV3 := hid hV3
  clear hV3
  go_wp2_with fail
  rw [← HV3.out]
  refine (HR.out V3 (HX2.out.below HB23.out)).mono ?_
  rintro e w4 ⟨a2, c2, rfl, hv4, hb4⟩
  have HV4 := hid hv4
  have HB24 := hid (bt' HB23.out hb4)
  have HK4 := hid (HK3.out.below hb4 HK3.out.lt)
  clear hv4 hb4 HR
  obtain ⟨V5, hV5⟩ : ∃ V, V = w4.alloc (.cells #[.bool np, .string tk, .string ct, .int .i64 ep, .slice a2 m c2] 36) := ⟨_, rfl⟩
  have HB45 : Hid (Below w4.heap.size w4 V5) := by rw [hV5]; exact (Below.refl _ _).alloc (Nat.le_refl _) _
  have HK5 : Hid (Blk V5 w4.heap.size 36 [.bool np, .string tk, .string ct, .int .i64 ep, .slice a2 m c2]) := by rw [hV5]; exact Blk.new w4 _ _
  have HV5 := hid hV5
  have HX5 := hid (HX2.out.below (bt' HB24.out HB45.out))
  have HB25 := hid (bt' HB24.out HB45.out)
  clear hV5
  have HSL := hid (slotsBal V5 ao cap xs n HN.out HX5.out hl)
  go_wp2_with fail
  rw [← HV5.out]
  refine HSL.out.mono ?_
  rintro e w6 ⟨s1, d1, rfl, hh6, hb6⟩
  have HH6 := hid hh6
  have HB56 := hid hb6
  have HRS := hid (rslotsBal w6 ao cap xs n HN.out (HX5.out.below hb6) hl)
  clear hh6 hb6 HSL
  go_wp2_with fail
  refine HRS.out.mono ?_
  rintro e w7 ⟨s2, d2, rfl, hh7, hb7⟩
  have HH7 := hid hh7
  have HH67 := hid (HH6.out.below hb7)
  have HB57 := hid (bt' HB56.out hb7)
  clear hh7 hb7 HRS HH6
  obtain ⟨out, hout⟩ : ∃ o, o = putAll (slotsL xs) := ⟨_, rfl⟩
  rw [← hout] at HH7 HH67 ⊢
  have HOL : Hid (out.length ≤ 1466015503701) := by
    show _ ≤ _
    have := putAll_len (slotsL xs)
    rw [hout]
    have h2 : (slotsL xs).length = n := by rw [← HN.out]; simp [slotsL]
    omega
  obtain ⟨L, HL⟩ : ∃ L, Hid (out.length = L) := ⟨_, hid rfl⟩
  have hL : L ≤ 1466015503701 := by have := HOL.out; rw [HL.out] at this; exact this
  rw [HL.out]
  clear hout
  go_wp2_with fail
  refine (livesBal _).mono ?_
  rintro e w8 ⟨rfl, hb8⟩
  have HB28 : Hid (Below w2.heap.size w2 w8) := bt' HB25.out (bt' HB57.out hb8)
  have HB48 : Hid (Below w4.heap.size w4 w8) := bt' HB45.out (bt' HB57.out hb8)
  have HB58 : Hid (Below V5.heap.size V5 w8) := bt' HB57.out hb8
  have hk4 := HK4.out.below HB48.out HK4.out.lt
  have hk5 := HK5.out.below HB58.out HK5.out.lt
  have x0 := hk4.cell (i := 0) rfl
  have x1 := hk4.cell (i := 1) rfl
  have x2 := hk4.cell (i := 2) rfl
  have x3 := hk4.cell (i := 3) rfl
  have x4 := hk4.cell (i := 4) rfl
  have y0 := hk5.cell (i := 0) rfl
  have y1 := hk5.cell (i := 1) rfl
  have y2 := hk5.cell (i := 2) rfl
  have y3 := hk5.cell (i := 3) rfl
  have y4 := hk5.cell (i := 4) rfl
  have HSE := hid (sameEntry_B w8 ⟨np, tk, ct, ep, cut⟩ a1 a2 c1 c2 (HV2.out.below HB28.out) (HV4.out.below HB48.out))
  simp only [EnM.val] at HSE
  rw [HM.out] at HSE
  have HA8 := hid (HH67.out.below hb8)
  have HC8 := hid (HH7.out.below hb8)
  clear hb8 hk4 hk5 HH67 HH7
  go_wp2_with fail
  refine HSE.out.mono ?_
  rintro e w9 ⟨rfl, hb9⟩
  have HA9 := hid (HA8.out.below hb9)
  have HC9 := hid (HC8.out.below hb9)
  have HB9 : Hid (Below w.heap.size w w9) := bt' HB2.out (bt' HB28.out hb9)
  clear hb9 HSE x0 x1 x2 x3 x4 y0 y1 y2 y3 y4 HA8 HC8
  cases tb with
  | true =>
    go_wp2
    go_loopw [11] (fun i wz => ∃ k : Nat, k ≤ L ∧ i = .int .i64 k ∧ Hid (Below w9.heap.size w9 wz)) (fun i _ => L - (intOf i).toNat)
    case atStart => exact ⟨0, by omega, rfl, Below.refl _ _⟩
    case round =>
      obtain ⟨k, hk, rfl, HR⟩ := hrel
      by_cases hlt : k < L
      · have hlt' : (k : Int) < (L : Int) := by omega
        have hkx : Hid (k < out.length) := (by rw [HL.out]; exact hlt : k < out.length)
        obtain ⟨g1, o1, rfl, hc1⟩ := (HA9.out.below HR.out).cellAt hkx.out
        obtain ⟨g2, o2, rfl, hc2⟩ := (HC9.out.below HR.out).cellAt hkx.out
        have d1 := hc1 k hkx.out
        have d2 := hc2 k hkx.out
        obtain ⟨X, hX⟩ : ∃ X, X = out.getD k 0 := ⟨_, rfl⟩
        rw [← hX] at d1 d2
        clear hc1 hc2 hX
        go_wp2
        go_quiet (fail)
        go_wp2
        go_roundw
        case rel => exact ⟨k + 1, by omega, by go_num, below_dn HR.out _⟩
        case measure => simp [intOf]; omega
      · have hlt' : ¬ (k : Int) < (L : Int) := by omega
        go_wp2
        go_ret
        exact ⟨rfl, bt' HB9.out HR.out⟩
  | false =>
    go_wp2
    go_loopw [11] (fun i wz => ∃ k : Nat, k ≤ L ∧ i = .int .i64 k ∧ Hid (Below w9.heap.size w9 wz)) (fun i _ => L - (intOf i).toNat)
    case atStart => exact ⟨0, by omega, rfl, Below.refl _ _⟩
    case round =>
      obtain ⟨k, hk, rfl, HR⟩ := hrel
      by_cases hlt : k < L
      · have hlt' : (k : Int) < (L : Int) := by omega
        have hkx : Hid (k < out.length) := (by rw [HL.out]; exact hlt : k < out.length)
        obtain ⟨g1, o1, rfl, hc1⟩ := (HA9.out.below HR.out).cellAt hkx.out
        obtain ⟨g2, o2, rfl, hc2⟩ := (HC9.out.below HR.out).cellAt hkx.out
        have d1 := hc1 k hkx.out
        have d2 := hc2 k hkx.out
        obtain ⟨X, hX⟩ : ∃ X, X = out.getD k 0 := ⟨_, rfl⟩
        rw [← hX] at d1 d2
        clear hc1 hc2 hX
        go_wp2
        go_quiet (fail)
        go_wp2
        go_roundw
        case rel => exact ⟨k + 1, by omega, by go_num, below_dn HR.out _⟩
        case measure => simp [intOf]; omega
      · have hlt' : ¬ (k : Int) < (L : Int) := by omega
        go_wp2
        go_ret
        exact ⟨rfl, bt' HB9.out HR.out⟩
end Go.Proofs.Ytdceenejijigdaa
