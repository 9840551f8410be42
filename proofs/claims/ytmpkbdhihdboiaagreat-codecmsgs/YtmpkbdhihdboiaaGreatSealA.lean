/-
  Package codec: Msg.
-/
import Derived.Test.YtmpkbdhihdboiaaGreatCodY
import Derived.Test.YtmpkbdhihdboiaaGreatVoA
namespace Go.Proofs.YtmpkbdhihdboiaaGreat
open Go.RowKit Go.Maps
attribute [local go_sem] Oper.semAt_some

theorem own_sliceC {w : World} {B e n sz : Nat} {v : Value} {xs : List Value} (h : w.ownsRow B e sz v n xs) : ∃ eo cap, v = .slice eo n cap := by
  rcases h.2 with ⟨rfl, rfl⟩ | ⟨g, cap, cur, rfl, _⟩
  · exact ⟨_, _, rfl⟩
  · exact ⟨_, _, rfl⟩
theorem own_monoC {w : World} {base base' : Nat} {e : TypeId} {size : Nat} {v : Value} {n : Nat} {xs : List Value} (h : w.ownsRow base e size v n xs) (hb : base' ≤ base) : w.ownsRow base' e size v n xs := by
  refine ⟨h.1, ?_⟩
  rcases h.2 with h1 | ⟨g, cap, cur, h1, h2, h3⟩
  · exact .inl h1
  · exact .inr ⟨g, cap, cur, h1, Nat.le_trans hb h2, h3⟩
/-- What codec.Msg answers. -/
def MsgP (w : World) (x : MsM) (e : Ending) (w' : World) : Prop :=
  Below w.heap.size w w' ∧ (if RightMs x = true then (if (encMs x).length ≤ 65536 then ∃ v, e = .returned (.tuple #[v, .int .i64 0]) ∧ w'.ownsRow w.heap.size 5 1 v (encMs x).length (nums (encMs x)) else e = .returned (.tuple #[.slice none 0 0, .int .i64 3])) else e = .returned (.tuple #[.slice none 0 0, .int .i64 1]))
set_option maxRecDepth 100000 in
set_option maxHeartbeats 1000000 in
theorem writtenM_any (V : World) (x : MsM) (hx : MsOk V x) : Calls Tryz.prog 9 #[x.val, .func (.func 10) #[] #[], .func (.func 11) #[] #[]] V (MsgP V x) := by
  obtain ⟨W, hW⟩ : ∃ W, W = V.alloc (.cells x.cells.toArray 32) := ⟨_, rfl⟩
  have HB : Hid (Below V.heap.size V W) := by rw [hW]; exact (Below.refl _ _).alloc (Nat.le_refl _) _
  have HK : Hid (Blk W V.heap.size 32 x.cells) := by rw [hW]; exact Blk.new V _ _
  have HM := hid (mayMsg_C W x (hx.below HB.out))
  have HOX := hid hx
  have HW := hid hW
  clear hW hx
  by_cases hr : RightMs x = true
  · rw [hr] at HM
    obtain ⟨L, HL⟩ : ∃ m, Hid ((encMs x).length = m) := ⟨_, hid rfl⟩
    have HA : Hid (∀ U, Below V.heap.size V U → Calls Tryz.prog 11 #[.slice none 0 0, x.val] U fun e w' => ∃ v', e = .returned v' ∧ Hid (w'.ownsRow U.heap.size 5 1 v' L (nums (encMs x))) ∧ Below U.heap.size U w') := fun U hU => by
      refine (appendMsg_T (.slice none 0 0) 0 [] x U.heap.size U (rightMs_iff hr) (fun Z hZ => (HOX.out.below hU).below hZ) (World.ownsRow_nil _ _ _ _) (Nat.le_refl _) (by omega)).mono ?_
      rintro e w' ⟨v', rfl, k1, k2, _⟩
      rw [HL.out, Nat.zero_add, List.nil_append] at k1
      exact ⟨v', rfl, k1, k2⟩
    have HRR := hid hr
    clear hr
    obtain ⟨kd, fr, to, ⟨b1, b2⟩, sl, ⟨⟨np, tk, ct, ep, cut⟩, ao1, cap1⟩, vo, vc, vs, so, sc, seen, eo, ec, evs, ti⟩ := x
    simp only [MsM.val, MsM.cells] at HM HA HW HK ⊢
    by_cases hll : L ≤ 65536
    · have HLL : Hid (L ≤ 65536) := hll
      have hbig : ¬ (65536 : Int) < (L : Int) := by omega
      clear hll
      go_enter Tryz.func9, Tryz.ntmps9
      go_wp2_with fail
      rw [← HW.out]
      obtain ⟨p, hp⟩ : ∃ p, p = V.heap.size := ⟨_, rfl⟩
      rw [← hp] at HK ⊢
      clear hp
      refine HM.out.mono ?_
      rintro e w1 ⟨rfl, hb1⟩
      have HB1 := hid (bt' HB.out hb1)
      have hk := HK.out.below hb1 HK.out.lt
      have c0 := hk.cell (i := 0) rfl
      have c1 := hk.cell (i := 1) rfl
      have c2 := hk.cell (i := 2) rfl
      have c3 := hk.cell (i := 3) rfl
      have c4 := hk.cell (i := 4) rfl
      have c5 := hk.cell (i := 5) rfl
      have c6 := hk.cell (i := 6) rfl
      have c7 := hk.cell (i := 7) rfl
      have c8 := hk.cell (i := 8) rfl
      have c9 := hk.cell (i := 9) rfl
      have c10 := hk.cell (i := 10) rfl
      have c11 := hk.cell (i := 11) rfl
      have c12 := hk.cell (i := 12) rfl
      have c13 := hk.cell (i := 13) rfl
      have c14 := hk.cell (i := 14) rfl
      clear hb1 hk HM
      go_wp2_with fail
      refine (HA.out _ HB1.out).mono ?_
      rintro e w2 ⟨v2, rfl, hr2, hb2⟩
      obtain ⟨o, c, hv⟩ := own_sliceC hr2.out
      have HB2 := hid (bt' HB1.out hb2)
      have HR2 := hid (own_monoC hr2.out HB1.out.size)
      subst hv
      clear hr2 hb2
      go_wp2
      go_ret2
      refine ⟨HB2.out, ?_⟩
      rw [if_pos HRR.out, HL.out, if_pos HLL.out]
      exact ⟨_, rfl, HR2.out⟩
    · have HLL : Hid (¬ L ≤ 65536) := hll
      have hbig : (65536 : Int) < (L : Int) := by omega
      clear hll
      go_enter Tryz.func9, Tryz.ntmps9
      go_wp2_with fail
      rw [← HW.out]
      obtain ⟨p, hp⟩ : ∃ p, p = V.heap.size := ⟨_, rfl⟩
      rw [← hp] at HK ⊢
      clear hp
      refine HM.out.mono ?_
      rintro e w1 ⟨rfl, hb1⟩
      have HB1 := hid (bt' HB.out hb1)
      have hk := HK.out.below hb1 HK.out.lt
      have c0 := hk.cell (i := 0) rfl
      have c1 := hk.cell (i := 1) rfl
      have c2 := hk.cell (i := 2) rfl
      have c3 := hk.cell (i := 3) rfl
      have c4 := hk.cell (i := 4) rfl
      have c5 := hk.cell (i := 5) rfl
      have c6 := hk.cell (i := 6) rfl
      have c7 := hk.cell (i := 7) rfl
      have c8 := hk.cell (i := 8) rfl
      have c9 := hk.cell (i := 9) rfl
      have c10 := hk.cell (i := 10) rfl
      have c11 := hk.cell (i := 11) rfl
      have c12 := hk.cell (i := 12) rfl
      have c13 := hk.cell (i := 13) rfl
      have c14 := hk.cell (i := 14) rfl
      clear hb1 hk HM
      go_wp2_with fail
      refine (HA.out _ HB1.out).mono ?_
      rintro e w2 ⟨v2, rfl, hr2, hb2⟩
      obtain ⟨o, c, hv⟩ := own_sliceC hr2.out
      have HB2 := hid (bt' HB1.out hb2)
      have HR2 := hid (own_monoC hr2.out HB1.out.size)
      subst hv
      clear hr2 hb2
      go_wp2
      go_ret2
      refine ⟨HB2.out, ?_⟩
      rw [if_pos HRR.out, HL.out, if_neg HLL.out]
      rfl
  · rw [Bool.eq_false_iff.2 hr] at HM
    have HRR := hid hr
    clear hr
    obtain ⟨kd, fr, to, ⟨b1, b2⟩, sl, ⟨⟨np, tk, ct, ep, cut⟩, ao1, cap1⟩, vo, vc, vs, so, sc, seen, eo, ec, evs, ti⟩ := x
    simp only [MsM.val, MsM.cells] at HM HW HK ⊢
    go_enter Tryz.func9, Tryz.ntmps9
    go_wp2_with fail
    rw [← HW.out]
    obtain ⟨p, hp⟩ : ∃ p, p = V.heap.size := ⟨_, rfl⟩
    rw [← hp] at HK ⊢
    clear hp
    refine HM.out.mono ?_
    rintro e w1 ⟨rfl, hb1⟩
    have HB1 := hid (bt' HB.out hb1)
    clear hb1 HM
    go_wp2
    go_ret2
    refine ⟨HB1.out, ?_⟩
    rw [if_neg HRR.out]
    rfl
set_option maxRecDepth 100000 in
set_option maxHeartbeats 1000000 in
theorem msg_any (w : World) (x : MsM) (hx : MsOk w x) : Calls Tryz.prog 4 #[x.val] w (MsgP w x) := by
  have H := hid (fun o => writtenM_any (w.alloc o) x (hx.below ((Below.refl _ _).alloc (Nat.le_refl _) o)))
  have HMONO : Hid (∀ o e w', MsgP (w.alloc o) x e w' → (∃ v c, e = .returned (.tuple #[v, .int .i64 c])) ∧ MsgP w x e w') := fun o e w' h => by
    obtain ⟨h1, h2⟩ := h
    have hb : Below w.heap.size w (w.alloc o) := (Below.refl _ _).alloc (Nat.le_refl _) o
    by_cases hr : RightMs x = true
    · rw [if_pos hr] at h2
      by_cases hl : (encMs x).length ≤ 65536
      · rw [if_pos hl] at h2
        obtain ⟨v, rfl, h3⟩ := h2
        exact ⟨⟨_, _, rfl⟩, bt' hb h1, by rw [if_pos hr, if_pos hl]; exact ⟨v, rfl, own_monoC h3 hb.size⟩⟩
      · rw [if_neg hl] at h2
        subst h2
        exact ⟨⟨_, _, rfl⟩, bt' hb h1, by rw [if_pos hr, if_neg hl]⟩
    · rw [if_neg hr] at h2
      subst h2
      exact ⟨⟨_, _, rfl⟩, bt' hb h1, by rw [if_neg hr]⟩
  clear hx
  obtain ⟨kd, fr, to, ⟨b1, b2⟩, sl, ⟨⟨np, tk, ct, ep, cut⟩, ao1, cap1⟩, vo, vc, vs, so, sc, seen, eo, ec, evs, ti⟩ := x
  simp only [MsM.val] at H ⊢
  go_enter Tryz.func4, Tryz.ntmps4
  go_wp2_with fail
  refine (H.out _).mono ?_
  intro e w' h
  obtain ⟨⟨v, c, rfl⟩, h2⟩ := HMONO.out _ _ _ h
  have H2 := hid h2
  clear h h2 HMONO H
  go_wp2
  go_ret2
  exact H2.out
end Go.Proofs.YtmpkbdhihdboiaaGreat
/-
  Seals in memory: what a slice of api.Seal holds ('HeldSl'), what append makes of one. No function of the program is named here.
-/
namespace Go.Proofs.YtmpkbdhihdboiaaGreat
open Go.RowKit Go.ChangeShapes Go.WideShapes Go.Deep Go.Maps

structure Sl where
  tok : ByteArray
  cart : ByteArray
  ep : Int
  cut : List Int
  deriving DecidableEq
def zeroSl : Sl := ⟨⟨#[]⟩, ⟨#[]⟩, 0, []⟩
/-- A seal with the place of its cut. -/
structure SlM where
  e : Sl
  ao : Option Addr
  cap : Nat
def zeroSM : SlM := ⟨zeroSl, none, 0⟩
instance : Inhabited SlM := ⟨zeroSM⟩
def SlM.cells (x : SlM) : List Value := [.string x.e.tok, .string x.e.cart, .int .i64 x.e.ep, .slice x.ao x.e.cut.length x.cap]
abbrev SlM.val (x : SlM) : Value := .agg #[.string x.e.tok, .string x.e.cart, .int .i64 x.e.ep, .slice x.ao x.e.cut.length x.cap]
structure SlOk (w : World) (x : SlM) : Prop where
  cut : HV w x.ao x.cap x.e.cut
  ie : I64 x.e.ep
  ht : x.e.tok.size ≤ maxLen
  hc : x.e.cart.size ≤ maxLen
theorem SlOk.below {w w' : World} {x : SlM} (h : SlOk w x) (hb : Below w.heap.size w w') : SlOk w' x := ⟨h.cut.below hb, h.ie, h.ht, h.hc⟩
def AllS (w : World) (xs : List SlM) : Prop := ∀ x ∈ xs, SlOk w x
theorem AllS.below {w w' : World} {xs : List SlM} (h : AllS w xs) (hb : Below w.heap.size w w') : AllS w' xs := fun x hx => (h x hx).below hb
/-- A slice of seals holds xs. -/
def HeldSl (w : World) (ao : Option Addr) (xs : List SlM) : Prop :=
  AllS w xs ∧ (xs = [] ∨ ∃ b off, ao = some ⟨b, off, none⟩ ∧ b < w.heap.size ∧ ∀ j (hj : j < xs.length) c u, xs[j].cells[c]? = some u → w.cell? ⟨b, off + j * 4 + c, none⟩ = some u)
theorem HeldSl.below {w w' : World} {ao : Option Addr} {xs : List SlM} (h : HeldSl w ao xs) (hb : Below w.heap.size w w') : HeldSl w' ao xs := by
  refine ⟨h.1.below hb, ?_⟩
  rcases h.2 with h0 | ⟨b, off, h1, h2, h3⟩
  · exact .inl h0
  · exact .inr ⟨b, off, h1, Nat.lt_of_lt_of_le h2 hb.size, fun j hj c u hu => (hb.cell (p := ⟨b, off + j * 4 + c, none⟩) h2).trans (h3 j hj c u hu)⟩
theorem HeldSl.at {w : World} {ao : Option Addr} {xs : List SlM} (h : HeldSl w ao xs) {j : Nat} (hj : j < xs.length) : ∃ b off, ao = some ⟨b, off, none⟩ ∧ b < w.heap.size ∧ w.cell? ⟨b, off + j * 4, none⟩ = some (.string xs[j].e.tok) ∧ w.cell? ⟨b, off + j * 4 + 1, none⟩ = some (.string xs[j].e.cart) ∧
    w.cell? ⟨b, off + j * 4 + 2, none⟩ = some (.int .i64 xs[j].e.ep) ∧ w.cell? ⟨b, off + j * 4 + 3, none⟩ = some (.slice xs[j].ao xs[j].e.cut.length xs[j].cap) := by
  rcases h.2 with h0 | ⟨b, off, h1, h2, h3⟩
  · subst h0
    cases hj
  · exact ⟨b, off, h1, h2, h3 j hj 0 _ rfl, h3 j hj 1 _ rfl, h3 j hj 2 _ rfl, h3 j hj 3 _ rfl⟩
def flatS (xs : List SlM) : List Value := xs.flatMap SlM.cells
theorem flatS_snoc (xs : List SlM) (x : SlM) : flatS (xs ++ [x]) = flatS xs ++ x.cells := by simp [flatS]
theorem flatS_len : ∀ xs : List SlM, (flatS xs).length = xs.length * 4
  | [] => rfl
  | x :: r => by
    have := flatS_len r
    unfold flatS at this ⊢
    rw [List.flatMap_cons, List.length_append, this, List.length_cons]
    show 4 + _ = _
    omega
theorem flatS_get : ∀ (xs : List SlM) (j : Nat) (hj : j < xs.length) (c : Nat) (u : Value), xs[j].cells[c]? = some u → (flatS xs)[j * 4 + c]? = some u
  | [], j, hj, _, _, _ => by cases hj
  | x :: r, 0, _, c, u, h => by
    simp only [List.getElem_cons_zero] at h
    have hc : c < 4 := (List.getElem?_eq_some_iff.1 h).1
    unfold flatS
    rw [List.flatMap_cons, Nat.zero_mul, Nat.zero_add, List.getElem?_append_left (show c < 4 from hc)]
    exact h
  | x :: r, j + 1, hj, c, u, h => by
    simp only [List.getElem_cons_succ] at h
    have := flatS_get r j (by simpa using hj) c u h
    unfold flatS at this ⊢
    rw [List.flatMap_cons, List.getElem?_append_right (show x.cells.length ≤ _ by show 4 ≤ _; omega)]
    rw [show (j + 1) * 4 + c - x.cells.length = j * 4 + c by show _ - 4 = _; omega]
    exact this
/-- What an owned row of seals holds. -/
theorem heldSl_of_own {w : World} {B : Nat} {v : Value} {xs : List SlM} {n : Nat} (hn : xs.length = n) (h : w.ownsRow B 26 4 v n (flatS xs)) (hx : AllS w xs) : ∃ ao cap, v = .slice ao n cap ∧ n ≤ cap ∧ HeldSl w ao xs := by
  subst hn
  obtain ⟨eo, cap, rfl, hnc, hc⟩ := own_form8 h
  refine ⟨eo, cap, rfl, hnc, hx, ?_⟩
  by_cases h0 : xs = []
  · exact .inl h0
  · obtain ⟨g, rfl, _, hg, hcell⟩ := hc (List.length_pos_iff.2 h0)
    refine .inr ⟨g, 0, rfl, hg, fun j hj c u hu => ?_⟩
    rw [Nat.zero_add]
    exact hcell _ _ (flatS_get xs j hj c u hu)
theorem Tryz.infoSl : (Tryz.prog.info? 26).map (fun i => (i.zero, i.size, i.bytes)) = some (some (.agg #[.string ⟨#[]⟩, .string ⟨#[]⟩, .int .i64 0, .slice none 0 0]), 4, 64) := by kernel_rfl
theorem sl_one (x : SlM) : ∀ u ∈ x.cells, u.oneCell' = true := by
  intro u hu
  simp [SlM.cells] at hu
  rcases hu with rfl | rfl | rfl | rfl <;> rfl
end Go.Proofs.YtmpkbdhihdboiaaGreat
