/-
  Package codec: Msg.
-/
import Derived.Test.YtjjgojjllbdpkaaCodY
import Derived.Test.YtjjgojjllbdpkaaRows
import Derived.Test.YtjjgojjllbdpkaaBlk
import Derived.Lib.SmallJoins
namespace Go.Proofs.Ytjjgojjllbdpkaa
open Go.RowKit Go.Maps
attribute [local go_sem] Oper.semAt_some

theorem own_sliceC {w : World} {B e n sz : Nat} {v : Value} {xs : List Value} (h : w.ownsRow B e sz v n xs) : ∃ eo cap, v = .slice eo n cap := by
  rcases h.2 with ⟨rfl, rfl⟩ | ⟨g, cap, cur, rfl, _⟩
  · exact ⟨_, _, rfl⟩
  · exact ⟨_, _, rfl⟩
theorem own_monoC {w : World} {base base' : Nat} {e : TypeId} {size : Nat} {v : Value} {n : Nat} {xs : List Value} (h : w.ownsRow base e size v n xs) (hb : base' ≤ base) : w.ownsRow base' e size v n xs := by
  refine ⟨h.1, ?_⟩
  rcases h.2 with h1 | ⟨g, cap, cur, h1, h2, h3⟩
  · exact .inl h1
  · exact .inr ⟨g, cap, cur, h1, Nat.le_trans hb h2, h3⟩
/-- What codec.Msg answers. -/
def MsgP (w : World) (x : MsM) (e : Ending) (w' : World) : Prop :=
  Below w.heap.size w w' ∧ (if RightMs x = true then (if (encMs x).length ≤ 65536 then ∃ v, e = .returned (.tuple #[v, .int .i64 0]) ∧ w'.ownsRow w.heap.size 5 1 v (encMs x).length (nums (encMs x)) else e = .returned (.tuple #[.slice none 0 0, .int .i64 3])) else e = .returned (.tuple #[.slice none 0 0, .int .i64 1]))
set_option maxRecDepth 100000 in
set_option maxHeartbeats 1000000 in
theorem writtenM_any (V : World) (x : MsM) (hx : MsOk V x) : Calls Try.prog 9 #[x.val, .func (.func 10) #[] #[], .func (.func 11) #[] #[]] V (MsgP V x) := by
  obtain ⟨W, hW⟩ : ∃ W, W = V.alloc (.cells x.cells.toArray 32) := ⟨_, rfl⟩
  have HB : Hid (Below V.heap.size V W) := by rw [hW]; exact (Below.refl _ _).alloc (Nat.le_refl _) _
  have HK : Hid (Blk W V.heap.size 32 x.cells) := by rw [hW]; exact Blk.new V _ _
  have HM := hid (mayMsg_C W x (hx.below HB.out))
  have HOX := hid hx
  have HW := hid hW
  clear hW hx
  by_cases hr : RightMs x = true
  · rw [hr] at HM
    obtain ⟨L, HL⟩ : ∃ m, Hid ((encMs x).length = m) := ⟨_, hid rfl⟩
    have HA : Hid (∀ U, Below V.heap.size V U → Calls Try.prog 11 #[.slice none 0 0, x.val] U fun e w' => ∃ v', e = .returned v' ∧ Hid (w'.ownsRow U.heap.size 5 1 v' L (nums (encMs x))) ∧ Below U.heap.size U w') := fun U hU => by
      refine (appendMsg_T (.slice none 0 0) 0 [] x U.heap.size U (rightMs_iff hr) (fun Z hZ => (HOX.out.below hU).below hZ) (World.ownsRow_nil _ _ _ _) (Nat.le_refl _) (by omega)).mono ?_
      rintro e w' ⟨v', rfl, k1, k2, _⟩
      rw [HL.out, Nat.zero_add, List.nil_append] at k1
      exact ⟨v', rfl, k1, k2⟩
    have HRR := hid hr
    clear hr
    obtain ⟨kd, fr, to, ⟨b1, b2⟩, sl, ⟨⟨np, tk, ct, ep, cut⟩, ao1, cap1⟩, vo, vc, vs, so, sc, seen, eo, ec, evs, ti⟩ := x
    simp only [MsM.val, MsM.cells] at HM HA HW HK ⊢
    by_cases hll : L ≤ 65536
    · have HLL : Hid (L ≤ 65536) := hll
      have hbig : ¬ (65536 : Int) < (L : Int) := by omega
      clear hll
      go_enter Try.func9, Try.ntmps9
      go_wp2_with fail
      rw [← HW.out]
      obtain ⟨p, hp⟩ : ∃ p, p = V.heap.size := ⟨_, rfl⟩
      rw [← hp] at HK ⊢
      clear hp
      refine HM.out.mono ?_
      rintro e w1 ⟨rfl, hb1⟩
      have HB1 := hid (bt' HB.out hb1)
      have hk := HK.out.below hb1 HK.out.lt
      have c0 := hk.cell (i := 0) rfl
      have c1 := hk.cell (i := 1) rfl
      have c2 := hk.cell (i := 2) rfl
      have c3 := hk.cell (i := 3) rfl
      have c4 := hk.cell (i := 4) rfl
      have c5 := hk.cell (i := 5) rfl
      have c6 := hk.cell (i := 6) rfl
      have c7 := hk.cell (i := 7) rfl
      have c8 := hk.cell (i := 8) rfl
      have c9 := hk.cell (i := 9) rfl
      have c10 := hk.cell (i := 10) rfl
      have c11 := hk.cell (i := 11) rfl
      have c12 := hk.cell (i := 12) rfl
      have c13 := hk.cell (i := 13) rfl
      have c14 := hk.cell (i := 14) rfl
      clear hb1 hk HM
      go_wp2_with fail
      refine (HA.out _ HB1.out).mono ?_
      rintro e w2 ⟨v2, rfl, hr2, hb2⟩
      obtain ⟨o, c, hv⟩ := own_sliceC hr2.out
      have HB2 := hid (bt' HB1.out hb2)
      have HR2 := hid (own_monoC hr2.out HB1.out.size)
      subst hv
      clear hr2 hb2
      go_wp2
      go_ret2
      refine ⟨HB2.out, ?_⟩
      rw [if_pos HRR.out, HL.out, if_pos HLL.out]
      exact ⟨_, rfl, HR2.out⟩
    · have HLL : Hid (¬ L ≤ 65536) := hll
      have hbig : (65536 : Int) < (L : Int) := by omega
      clear hll
      go_enter Try.func9, Try.ntmps9
      go_wp2_with fail
      rw [← HW.out]
      obtain ⟨p, hp⟩ : ∃ p, p = V.heap.size := ⟨_, rfl⟩
      rw [← hp] at HK ⊢
      clear hp
      refine HM.out.mono ?_
      rintro e w1 ⟨rfl, hb1⟩
      have HB1 := hid (bt' HB.out hb1)
      have hk := HK.out.below hb1 HK.out.lt
      have c0 := hk.cell (i := 0) rfl
      have c1 := hk.cell (i := 1) rfl
      have c2 := hk.cell (i := 2) rfl
      have c3 := hk.cell (i := 3) rfl
      have c4 := hk.cell (i := 4) rfl
      have c5 := hk.cell (i := 5) rfl
      have c6 := hk.cell (i := 6) rfl
      have c7 := hk.cell (i := 7) rfl
      have c8 := hk.cell (i := 8) rfl
      have c9 := hk.cell (i := 9) rfl
      have c10 := hk.cell (i := 10) rfl
      have c11 := hk.cell (i := 11) rfl
      have c12 := hk.cell (i := 12) rfl
      have c13 := hk.cell (i := 13) rfl
      have c14 := hk.cell (i := 14) rfl
      clear hb1 hk HM
      go_wp2_with fail
      refine (HA.out _ HB1.out).mono ?_
      rintro e w2 ⟨v2, rfl, hr2, hb2⟩
      obtain ⟨o, c, hv⟩ := own_sliceC hr2.out
      have HB2 := hid (bt' HB1.out hb2)
      have HR2 := hid (own_monoC hr2.out HB1.out.size)
      subst hv
      clear hr2 hb2
      go_wp2
      go_ret2
      refine ⟨HB2.out, ?_⟩
      rw [if_pos HRR.out, HL.out, if_neg HLL.out]
      rfl
  · rw [Bool.eq_false_iff.2 hr] at HM
    have HRR := hid hr
    clear hr
    obtain ⟨kd, fr, to, ⟨b1, b2⟩, sl, ⟨⟨np, tk, ct, ep, cut⟩, ao1, cap1⟩, vo, vc, vs, so, sc, seen, eo, ec, evs, ti⟩ := x
    simp only [MsM.val, MsM.cells] at HM HW HK ⊢
    go_enter Try.func9, Try.ntmps9
    go_wp2_with fail
    rw [← HW.out]
    obtain ⟨p, hp⟩ : ∃ p, p = V.heap.size := ⟨_, rfl⟩
    rw [← hp] at HK ⊢
    clear hp
    refine HM.out.mono ?_
    rintro e w1 ⟨rfl, hb1⟩
    have HB1 := hid (bt' HB.out hb1)
    clear hb1 HM
    go_wp2
    go_ret2
    refine ⟨HB1.out, ?_⟩
    rw [if_neg HRR.out]
    rfl
set_option maxRecDepth 100000 in
set_option maxHeartbeats 1000000 in
theorem msg_any (w : World) (x : MsM) (hx : MsOk w x) : Calls Try.prog 4 #[x.val] w (MsgP w x) := by
  have H := hid (fun o => writtenM_any (w.alloc o) x (hx.below ((Below.refl _ _).alloc (Nat.le_refl _) o)))
  have HMONO : Hid (∀ o e w', MsgP (w.alloc o) x e w' → (∃ v c, e = .returned (.tuple #[v, .int .i64 c])) ∧ MsgP w x e w') := fun o e w' h => by
    obtain ⟨h1, h2⟩ := h
    have hb : Below w.heap.size w (w.alloc o) := (Below.refl _ _).alloc (Nat.le_refl _) o
    by_cases hr : RightMs x = true
    · rw [if_pos hr] at h2
      by_cases hl : (encMs x).length ≤ 65536
      · rw [if_pos hl] at h2
        obtain ⟨v, rfl, h3⟩ := h2
        exact ⟨⟨_, _, rfl⟩, bt' hb h1, by rw [if_pos hr, if_pos hl]; exact ⟨v, rfl, own_monoC h3 hb.size⟩⟩
      · rw [if_neg hl] at h2
        subst h2
        exact ⟨⟨_, _, rfl⟩, bt' hb h1, by rw [if_pos hr, if_neg hl]⟩
    · rw [if_neg hr] at h2
      subst h2
      exact ⟨⟨_, _, rfl⟩, bt' hb h1, by rw [if_neg hr]⟩
  clear hx
  obtain ⟨kd, fr, to, ⟨b1, b2⟩, sl, ⟨⟨np, tk, ct, ep, cut⟩, ao1, cap1⟩, vo, vc, vs, so, sc, seen, eo, ec, evs, ti⟩ := x
  simp only [MsM.val] at H ⊢
  go_enter Try.func4, Try.ntmps4
  go_wp2_with fail
  refine (H.out _).mono ?_
  intro e w' h
  obtain ⟨⟨v, c, rfl⟩, h2⟩ := HMONO.out _ _ _ h
  have H2 := hid h2
  clear h h2 HMONO H
  go_wp2
  go_ret2
  exact H2.out
end Go.Proofs.Ytjjgojjllbdpkaa
/-
  How an argument of type api.Ballot is read.
-/
namespace Go.Proofs.Ytjjgojjllbdpkaa
open Go.RowKit Go.ChangeShapes Go.WideShapes Go.Deep

/-- Whole numbers of 64 bits. -/
def In64B (x : Int) : Prop := -9223372036854775808 ≤ x ∧ x ≤ 9223372036854775807
theorem in64B_wf {x : Int} (h : (Lit.int .i64 x).wf = true) : In64B x := by
  simp [Lit.wf, IntKind.min, IntKind.max, IntKind.signed, IntKind.bits] at h
  exact ⟨by omega, by omega⟩
theorem arr2B {α : Type} {cs : List α} (h : cs.length = 2) : ∃ c0 c1, cs = [c0, c1] := by
  match cs, h with
  | [c0, c1], _ => exact ⟨c0, c1, rfl⟩
theorem Try.cellsBal : Try.prog.cellsOf 23 = 2 := by kernel_rfl

set_option maxRecDepth 100000 in
theorem bal_of_trod {H : Type} {enc : TypeId × Value → H} {w : World} {base : Nat} {spare : Nat → Bool} {held : Bool} {fuel : Nat} {cs : List Value} {x : DataW H × List MemPlace} (h : DataW.trod enc Try.prog w base spare held fuel 23 cs = some x) :
    ∃ o s : Int, cs = [.int .i64 o, .int .i64 s] ∧ In64B o ∧ In64B s := by
  obtain ⟨xs, n, _, _, hl, hlen, hf⟩ := DataW.trod_struct Try.underlying23 h
  rw [Try.cellsBal] at hl
  obtain ⟨c0, c1, rfl⟩ := arr2B hl
  obtain ⟨y0, y1, rfl⟩ := arr2B hlen
  have g : ∀ (i : Nat) (f : Field), (#[_, _] : Array Field)[i]? = some f → _ := hf
  have h0 := g 0 _ rfl
  have h1 := g 1 _ rfl
  have k3 : Try.prog.cellsOf 3 = 1 := by kernel_rfl
  simp [k3] at h0 h1
  obtain ⟨a0, e0, _, w0⟩ := DataW.trod_int Try.underlying3 h0
  obtain ⟨a1, e1, _, w1⟩ := DataW.trod_int Try.underlying3 h1
  simp at e0 e1
  subst e0 e1
  exact ⟨a0, a1, rfl, in64B_wf w0, in64B_wf w1⟩
set_option maxRecDepth 100000 in
theorem open_bal {H : Type} {enc : TypeId × Value → H} {w : World} {base b0 : Nat} {r : Reach} {spare : Nat → Bool} {held : Bool} {v : Value} {d : DataW H} {p : List MemPlace} (hv : Value.okWide Try.prog w r b0 23 v) (h : DataW.Trod enc Try.prog w base spare held 23 v d p) :
    ∃ o s : Int, v = .agg #[.int .i64 o, .int .i64 s] ∧ In64B o ∧ In64B s := by
  obtain ⟨cs, rfl, _⟩ := okWide_struct Try.underlying23 hv
  obtain ⟨fuel, hf⟩ := h
  obtain ⟨o, s, ho, h1, h2⟩ := bal_of_trod hf
  refine ⟨o, s, ?_, h1, h2⟩
  simp [Value.cells] at ho
  rw [show cs = #[.int .i64 o, .int .i64 s] from Array.ext' ho]
end Go.Proofs.Ytjjgojjllbdpkaa
