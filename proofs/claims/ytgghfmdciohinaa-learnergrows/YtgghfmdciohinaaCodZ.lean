/-
  Package codec: Msg.
-/
import Derived.Test.YtgghfmdciohinaaCodY
namespace Go.Proofs.Ytgghfmdciohinaa
open Go.RowKit Go.Maps
attribute [local go_sem] Oper.semAt_some

theorem own_sliceC {w : World} {B e n sz : Nat} {v : Value} {xs : List Value} (h : w.ownsRow B e sz v n xs) : ∃ eo cap, v = .slice eo n cap := by
  rcases h.2 with ⟨rfl, rfl⟩ | ⟨g, cap, cur, rfl, _⟩
  · exact ⟨_, _, rfl⟩
  · exact ⟨_, _, rfl⟩
theorem own_monoC {w : World} {base base' : Nat} {e : TypeId} {size : Nat} {v : Value} {n : Nat} {xs : List Value} (h : w.ownsRow base e size v n xs) (hb : base' ≤ base) : w.ownsRow base' e size v n xs := by
  refine ⟨h.1, ?_⟩
  rcases h.2 with h1 | ⟨g, cap, cur, h1, h2, h3⟩
  · exact .inl h1
  · exact .inr ⟨g, cap, cur, h1, Nat.le_trans hb h2, h3⟩
/-- What codec.Msg answers. -/
def MsgP (w : World) (x : MsM) (e : Ending) (w' : World) : Prop :=
  Below w.heap.size w w' ∧ (if RightMs x = true then (if (encMs x).length ≤ 65536 then ∃ v, e = .returned (.tuple #[v, .int .i64 0]) ∧ w'.ownsRow w.heap.size 5 1 v (encMs x).length (nums (encMs x)) else e = .returned (.tuple #[.slice none 0 0, .int .i64 3])) else e = .returned (.tuple #[.slice none 0 0, .int .i64 1]))
set_option maxRecDepth 100000 in
set_option maxHeartbeats 1000000 in
theorem writtenM_any (V : World) (x : MsM) (hx : MsOk V x) : Calls Try.prog 44 #[x.val, .func (.func 45) #[] #[], .func (.func 46) #[] #[]] V (MsgP V x) := by
  obtain ⟨W, hW⟩ : ∃ W, W = V.alloc (.cells x.cells.toArray 70) := ⟨_, rfl⟩
  have HB : Hid (Below V.heap.size V W) := by rw [hW]; exact (Below.refl _ _).alloc (Nat.le_refl _) _
  have HK : Hid (Blk W V.heap.size 70 x.cells) := by rw [hW]; exact Blk.new V _ _
  have HM := hid (mayMsg_C W x (hx.below HB.out))
  have HOX := hid hx
  have HW := hid hW
  clear hW hx
  by_cases hr : RightMs x = true
  · rw [hr] at HM
    obtain ⟨L, HL⟩ : ∃ m, Hid ((encMs x).length = m) := ⟨_, hid rfl⟩
    have HA : Hid (∀ U, Below V.heap.size V U → Calls Try.prog 46 #[.slice none 0 0, x.val] U fun e w' => ∃ v', e = .returned v' ∧ Hid (w'.ownsRow U.heap.size 5 1 v' L (nums (encMs x))) ∧ Below U.heap.size U w') := fun U hU => by
      refine (appendMsg_T (.slice none 0 0) 0 [] x U.heap.size U (rightMs_iff hr) (fun Z hZ => (HOX.out.below hU).below hZ) (World.ownsRow_nil _ _ _ _) (Nat.le_refl _) (by omega)).mono ?_
      rintro e w' ⟨v', rfl, k1, k2, _⟩
      rw [HL.out, Nat.zero_add, List.nil_append] at k1
      exact ⟨v', rfl, k1, k2⟩
    have HRR := hid hr
    clear hr
    obtain ⟨kd, fr, to, ⟨b1, b2⟩, sl, ⟨⟨np, tk, ct, ep, cut⟩, ao1, cap1⟩, vo, vc, vs, so, sc, seen, eo, ec, evs, ti⟩ := x
    simp only [MsM.val, MsM.cells] at HM HA HW HK ⊢
    by_cases hll : L ≤ 65536
    · have HLL : Hid (L ≤ 65536) := hll
      have hbig : ¬ (65536 : Int) < (L : Int) := by omega
      clear hll
      go_enter Try.func44, Try.ntmps44
      go_wp2_with fail
      rw [← HW.out]
      obtain ⟨p, hp⟩ : ∃ p, p = V.heap.size := ⟨_, rfl⟩
      rw [← hp] at HK ⊢
      clear hp
      refine HM.out.mono ?_
      rintro e w1 ⟨rfl, hb1⟩
      have HB1 := hid (bt' HB.out hb1)
      have hk := HK.out.below hb1 HK.out.lt
      have c0 := hk.cell (i := 0) rfl
      have c1 := hk.cell (i := 1) rfl
      have c2 := hk.cell (i := 2) rfl
      have c3 := hk.cell (i := 3) rfl
      have c4 := hk.cell (i := 4) rfl
      have c5 := hk.cell (i := 5) rfl
      have c6 := hk.cell (i := 6) rfl
      have c7 := hk.cell (i := 7) rfl
      have c8 := hk.cell (i := 8) rfl
      have c9 := hk.cell (i := 9) rfl
      have c10 := hk.cell (i := 10) rfl
      have c11 := hk.cell (i := 11) rfl
      have c12 := hk.cell (i := 12) rfl
      have c13 := hk.cell (i := 13) rfl
      have c14 := hk.cell (i := 14) rfl
      clear hb1 hk HM
      go_wp2_with fail
      refine (HA.out _ HB1.out).mono ?_
      rintro e w2 ⟨v2, rfl, hr2, hb2⟩
      obtain ⟨o, c, hv⟩ := own_sliceC hr2.out
      have HB2 := hid (bt' HB1.out hb2)
      have HR2 := hid (own_monoC hr2.out HB1.out.size)
      subst hv
      clear hr2 hb2
      go_wp2
      go_ret2
      refine ⟨HB2.out, ?_⟩
      rw [if_pos HRR.out, HL.out, if_pos HLL.out]
      exact ⟨_, rfl, HR2.out⟩
    · have HLL : Hid (¬ L ≤ 65536) := hll
      have hbig : (65536 : Int) < (L : Int) := by omega
      clear hll
      go_enter Try.func44, Try.ntmps44
      go_wp2_with fail
      rw [← HW.out]
      obtain ⟨p, hp⟩ : ∃ p, p = V.heap.size := ⟨_, rfl⟩
      rw [← hp] at HK ⊢
      clear hp
      refine HM.out.mono ?_
      rintro e w1 ⟨rfl, hb1⟩
      have HB1 := hid (bt' HB.out hb1)
      have hk := HK.out.below hb1 HK.out.lt
      have c0 := hk.cell (i := 0) rfl
      have c1 := hk.cell (i := 1) rfl
      have c2 := hk.cell (i := 2) rfl
      have c3 := hk.cell (i := 3) rfl
      have c4 := hk.cell (i := 4) rfl
      have c5 := hk.cell (i := 5) rfl
      have c6 := hk.cell (i := 6) rfl
      have c7 := hk.cell (i := 7) rfl
      have c8 := hk.cell (i := 8) rfl
      have c9 := hk.cell (i := 9) rfl
      have c10 := hk.cell (i := 10) rfl
      have c11 := hk.cell (i := 11) rfl
      have c12 := hk.cell (i := 12) rfl
      have c13 := hk.cell (i := 13) rfl
      have c14 := hk.cell (i := 14) rfl
      clear hb1 hk HM
      go_wp2_with fail
      refine (HA.out _ HB1.out).mono ?_
      rintro e w2 ⟨v2, rfl, hr2, hb2⟩
      obtain ⟨o, c, hv⟩ := own_sliceC hr2.out
      have HB2 := hid (bt' HB1.out hb2)
      have HR2 := hid (own_monoC hr2.out HB1.out.size)
      subst hv
      clear hr2 hb2
      go_wp2
      go_ret2
      refine ⟨HB2.out, ?_⟩
      rw [if_pos HRR.out, HL.out, if_neg HLL.out]
      rfl
  · rw [Bool.eq_false_iff.2 hr] at HM
    have HRR := hid hr
    clear hr
    obtain ⟨kd, fr, to, ⟨b1, b2⟩, sl, ⟨⟨np, tk, ct, ep, cut⟩, ao1, cap1⟩, vo, vc, vs, so, sc, seen, eo, ec, evs, ti⟩ := x
    simp only [MsM.val, MsM.cells] at HM HW HK ⊢
    go_enter Try.func44, Try.ntmps44
    go_wp2_with fail
    rw [← HW.out]
    obtain ⟨p, hp⟩ : ∃ p, p = V.heap.size := ⟨_, rfl⟩
    rw [← hp] at HK ⊢
    clear hp
    refine HM.out.mono ?_
    rintro e w1 ⟨rfl, hb1⟩
    have HB1 := hid (bt' HB.out hb1)
    clear hb1 HM
    go_wp2
    go_ret2
    refine ⟨HB1.out, ?_⟩
    rw [if_neg HRR.out]
    rfl
set_option maxRecDepth 100000 in
set_option maxHeartbeats 1000000 in
theorem msg_any (w : World) (x : MsM) (hx : MsOk w x) : Calls Try.prog 36 #[x.val] w (MsgP w x) := by
  have H := hid (fun o => writtenM_any (w.alloc o) x (hx.below ((Below.refl _ _).alloc (Nat.le_refl _) o)))
  have HMONO : Hid (∀ o e w', MsgP (w.alloc o) x e w' → (∃ v c, e = .returned (.tuple #[v, .int .i64 c])) ∧ MsgP w x e w') := fun o e w' h => by
    obtain ⟨h1, h2⟩ := h
    have hb : Below w.heap.size w (w.alloc o) := (Below.refl _ _).alloc (Nat.le_refl _) o
    by_cases hr : RightMs x = true
    · rw [if_pos hr] at h2
      by_cases hl : (encMs x).length ≤ 65536
      · rw [if_pos hl] at h2
        obtain ⟨v, rfl, h3⟩ := h2
        exact ⟨⟨_, _, rfl⟩, bt' hb h1, by rw [if_pos hr, if_pos hl]; exact ⟨v, rfl, own_monoC h3 hb.size⟩⟩
      · rw [if_neg hl] at h2
        subst h2
        exact ⟨⟨_, _, rfl⟩, bt' hb h1, by rw [if_pos hr, if_neg hl]⟩
    · rw [if_neg hr] at h2
      subst h2
      exact ⟨⟨_, _, rfl⟩, bt' hb h1, by rw [if_neg hr]⟩
  clear hx
  obtain ⟨kd, fr, to, ⟨b1, b2⟩, sl, ⟨⟨np, tk, ct, ep, cut⟩, ao1, cap1⟩, vo, vc, vs, so, sc, seen, eo, ec, evs, ti⟩ := x
  simp only [MsM.val] at H ⊢
  go_enter Try.func36, Try.ntmps36
  go_wp2_with fail
  refine (H.out _).mono ?_
  intro e w' h
  obtain ⟨⟨v, c, rfl⟩, h2⟩ := HMONO.out _ _ _ h
  have H2 := hid h2
  clear h h2 HMONO H
  go_wp2
  go_ret2
  exact H2.out
end Go.Proofs.Ytgghfmdciohinaa
