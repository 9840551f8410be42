/-
  pannierref16.Replay of any record.
-/
import Derived.Test.YtfmnbehopdmahaaGreatRwA
import Derived.Test.YtfmnbehopdmahaaGreatRqA
import Derived.Test.YtfmnbehopdmahaaGreatRqM
import Derived.Test.YtfmnbehopdmahaaGreatOrdK
namespace Go.Proofs.YtfmnbehopdmahaaGreat
open Go.RowKit Go.Maps

/-- What is known of what the document's On told. -/
structure OnK (a : Ac) (X : MsM) (kk : Int) (ok : Bool) (b : Ac) : Prop where
  is : takesA a X = ok
  yes : ok = true → kk = kindA a X ∧ b = afterA a X
  no : ok = false → b = a
theorem RaIn.onX {B : Nat} {w : World} {x : Nat} {a : Ac} {xs : List VoM} {ro : Option Addr} {rc : Nat} (h : RaIn B w x a xs ro rc) (hB : B ≤ w.heap.size) (X : MsM) (hx : MsOk w X) (hs : SafeM w B X) : Calls Tryz.prog 10 #[.pointer (some ⟨x, 0, none⟩), X.val] w fun e w' => ∃ kk nd fr r n sl np vo N vc R ok b, e = .returned (.tuple #[.agg #[.int .i64 kk, .int .i64 nd, .int .i64 fr, .int .i64 r, .int .i64 n, .int .i64 sl, .bool np, .string ⟨#[]⟩, .string ⟨#[]⟩, .int .i64 0, .slice none 0 0, .slice vo N vc, .slice none 0 0, .slice none 0 0, .int .i64 0], .string R, .bool ok]) ∧ Hid (OnK a X kk ok b) ∧ RaTo B w w' x b ro := by
  refine (h.on hB X hx hs).mono ?_
  intro e w' hP
  unfold OnD at hP
  by_cases ht : takesA a X = true
  · rw [if_pos ht] at hP
    obtain ⟨vo, vc, ys, he, _, _, _, _, hto⟩ := hP
    exact ⟨_, _, _, _, _, _, _, vo, ys.length, vc, _, _, _, he, ⟨ht, fun _ => ⟨rfl, rfl⟩, fun h => by cases h⟩, hto⟩
  · rw [if_neg ht] at hP
    exact ⟨_, _, _, _, _, _, _, none, 0, 0, _, _, _, hP.1, ⟨by simpa using ht, fun h => (by cases h), fun _ => rfl⟩, hP.2⟩
theorem SafeM.below {w w' : World} {B : Nat} {X : MsM} (h : SafeM w B X) (hb : Below w.heap.size w w') : SafeM w' B X := fun b off e hne => (h b off e hne).below hb
/-- Fork, and On of what it made. -/
theorem fork_on {B : Nat} {U : World} {x : Nat} {a : Ac} {xs : List VoM} {ro : Option Addr} {rc : Nat} (h : RaIn B U x a xs ro rc) (hB : B ≤ U.heap.size) (X : MsM) (hx : MsOk U X) (hs : SafeM U B X) : ∀ V, ScL U V → Calls Tryz.prog 36 #[.pointer (some ⟨x, 0, none⟩)] V fun e w' => ∃ x' G, e = .returned (.pointer (some ⟨x', 0, none⟩)) ∧ Hid (∀ i, G i → V.heap.size ≤ i ∧ i < w'.heap.size) ∧ Hid (∀ V', ScL w' V' → Calls Tryz.prog 10 #[.pointer (some ⟨x', 0, none⟩), X.val] V' fun e w'' => ∃ kk nd fr r n sl np vo N vc R ok b, e = .returned (.tuple #[.agg #[.int .i64 kk, .int .i64 nd, .int .i64 fr, .int .i64 r, .int .i64 n, .int .i64 sl, .bool np, .string ⟨#[]⟩, .string ⟨#[]⟩, .int .i64 0, .slice none 0 0, .slice vo N vc, .slice none 0 0, .slice none 0 0, .int .i64 0], .string R, .bool ok]) ∧ Hid (OnK a X kk ok b) ∧ Turns G V' w'' ∧ ScL U w'') ∧ ScL V w' := fun V hV => by
  refine ((h.below hV.out).fork (Nat.le_trans hB hV.out.size)).mono ?_
  rintro e w' ⟨x', ro', rc', rfl, h1, h2, h3⟩
  refine ⟨x', FootR x' ro', rfl, fun i hi => ⟨h3 i hi, ?_⟩, fun V' hV' => ?_, ⟨h2⟩⟩
  · rcases hi with hi | ⟨off, hi⟩
    · rw [hi]; exact h1.ra.blk.lt
    · obtain ⟨g, e1, _, h5⟩ : ∃ g, (⟨i, off, none⟩ : Addr) = ⟨g, 0, none⟩ ∧ B ≤ g ∧ g < w'.heap.size := by subst hi; exact ra_addr h1.ra
      cases e1
      exact h5
  have hU' : ScL U V' := (hV.go h2).go hV'.out
  refine ((h1.below hV'.out).onX (Nat.le_trans hB hU'.out.size) X (hx.below hU'.out) (hs.below hU'.out)).mono ?_
  rintro e w'' ⟨kk, nd, fr, r, n, sl, np, vo, N, vc, R, ok, b, he, hk, hto⟩
  obtain ⟨_, _, _, _, ht, _⟩ := hto
  exact ⟨kk, nd, fr, r, n, sl, np, vo, N, vc, R, ok, b, he, hk, ht, ⟨hU'.out.trans (ht.below (fun i hi => Nat.le_trans hV.out.size (h3 i hi)) hU'.out.size)⟩⟩
/-- What the document's Replay leaves. -/
def RplD (B : Nat) (w : World) (x : Nat) (a : Ac) (ro : Option Addr) (rec : ByteArray) (e : Ending) (w' : World) : Prop := ∃ (b : Ac) (E : Int), e = .returned (.int .i64 E) ∧ RaTo B w w' x b ro ∧
  ((E = 0 ∧ ∃ x : MsM, rec.size ≤ 65536 ∧ pMsg (strNums rec) = some (x.d, []) ∧ takesA a x = true ∧ kindA a x ≠ 5 ∧ b = afterA a x) ∨
   (E = 10 ∧ b = a ∧ ¬ ∃ x : MsM, rec.size ≤ 65536 ∧ pMsg (strNums rec) = some (x.d, []) ∧ takesA a x = true ∧ kindA a x ≠ 5))
set_option maxRecDepth 1000000 in
set_option maxHeartbeats 16000000 in
theorem RaIn.replay {B : Nat} {w : World} {x : Nat} {a : Ac} {xs : List VoM} {ro : Option Addr} {rc : Nat} (h : RaIn B w x a xs ro rc) (hB : B ≤ w.heap.size) (rec : ByteArray) (hs : rec.size ≤ maxLen) : Calls Tryz.prog 17 #[.pointer (some ⟨x, 0, none⟩), .string rec] w (RplD B w x a ro rec) := by
  obtain ⟨C, W1, hcv, hheld, hb1⟩ := conv_bytes w rec hs
  obtain ⟨RN, HRN⟩ : ∃ n, Hid (rec.size = n) := ⟨_, hid rfl⟩
  rw [HRN.out] at hcv hheld
  have HRM := hid (rreadMsg_any _ _ _ _ W1 hheld)
  have H0 := hid h
  have HBB := hid hB
  have HB1 := hid hb1
  clear h hs hheld hb1 hB
  go_enter Tryz.func17, Tryz.ntmps17
  go_wp2_with fail
  refine HRM.out.mono ?_
  rintro e w2 ⟨⟨kd, fr, tt, ⟨br, bn⟩, sl, ⟨⟨np, tk, ct, ep, cut⟩, a_1, c⟩, va, vc, vs, sa, sc, seen, ea, ec, evs, ti⟩, E, rfl, hmn, hor, hb2⟩
  simp only [MsM.val]
  obtain ⟨XN, HXN⟩ : ∃ m, Hid (cut.length = m) := ⟨_, hid rfl⟩
  obtain ⟨VN, HVN⟩ : ∃ m, Hid (vs.length = m) := ⟨_, hid rfl⟩
  obtain ⟨SN, HSN⟩ : ∃ m, Hid (seen.length = m) := ⟨_, hid rfl⟩
  obtain ⟨EN, HEN⟩ : ∃ m, Hid (evs.length = m) := ⟨_, hid rfl⟩
  rw [HXN.out, HVN.out, HSN.out, HEN.out]
  obtain ⟨bm, hbm⟩ : ∃ q, q = w2.heap.size := ⟨_, rfl⟩
  obtain ⟨U, hU⟩ : ∃ V, V = w2.alloc (.cells #[.int .i64 kd, .int .i64 fr, .int .i64 tt, .int .i64 br, .int .i64 bn, .int .i64 sl, .bool np, .string tk, .string ct, .int .i64 ep, .slice a_1 XN c, .slice va VN vc, .slice sa SN sc, .slice ea EN ec, .int .i64 ti] 43) := ⟨_, rfl⟩
  have hbU : Below w2.heap.size w2 U := by rw [hU]; exact (Below.refl _ _).alloc (Nat.le_refl _) _
  have HKM : Hid (Blk U bm 43 [.int .i64 kd, .int .i64 fr, .int .i64 tt, .int .i64 br, .int .i64 bn, .int .i64 sl, .bool np, .string tk, .string ct, .int .i64 ep, .slice a_1 XN c, .slice va VN vc, .slice sa SN sc, .slice ea EN ec, .int .i64 ti]) := by rw [hU, hbm]; exact Blk.new w2 _ _
  have HBU := hid (bt' (bt' HB1.out hb2) hbU)
  have HIN := hid (H0.out.below HBU.out)
  have HBB2 : Hid (B ≤ U.heap.size) := Nat.le_trans HBB.out HBU.out.size
  have HMN := hid (hmn.below hbU)
  have HU := hid hU
  have HBM := hid hbm
  clear hU hbm hbU hmn hb2 HRM hcv
  rcases hor with ⟨rfl, hl, hp⟩ | ⟨rfl, _, hno⟩
  · have HSZ : Hid (rec.size ≤ 65536) := by rw [HRN.out]; exact hid hl
    have HPM := hid hp
    have HSM : Hid (SafeM U B ⟨kd, fr, tt, (br, bn), sl, ⟨⟨np, tk, ct, ep, cut⟩, a_1, c⟩, va, vc, vs, sa, sc, seen, ea, ec, evs, ti⟩) := fun b off e _ => .inr (HMN.out.cut.num b off e)
    have HFK := hid (fork_on HIN.out HBB2.out ⟨kd, fr, tt, (br, bn), sl, ⟨⟨np, tk, ct, ep, cut⟩, a_1, c⟩, va, vc, vs, sa, sc, seen, ea, ec, evs, ti⟩ HMN.out.ok HSM.out)
    simp only [MsM.val] at HFK
    rw [HXN.out, HVN.out, HSN.out, HEN.out] at HFK
    have HSA : Hid (∀ V, ScL U V → (ScL U V ∧ V.cell? ⟨bm, 0, none⟩ = some (.int .i64 kd) ∧ V.cell? ⟨bm, 1, none⟩ = some (.int .i64 fr) ∧ V.cell? ⟨bm, 2, none⟩ = some (.int .i64 tt) ∧ V.cell? ⟨bm, 3, none⟩ = some (.int .i64 br) ∧ V.cell? ⟨bm, 4, none⟩ = some (.int .i64 bn) ∧ V.cell? ⟨bm, 5, none⟩ = some (.int .i64 sl) ∧ V.cell? ⟨bm, 6, none⟩ = some (.bool np) ∧ V.cell? ⟨bm, 7, none⟩ = some (.string tk) ∧ V.cell? ⟨bm, 8, none⟩ = some (.string ct) ∧ V.cell? ⟨bm, 9, none⟩ = some (.int .i64 ep) ∧ V.cell? ⟨bm, 10, none⟩ = some (.slice a_1 XN c) ∧ V.cell? ⟨bm, 11, none⟩ = some (.slice va VN vc) ∧ V.cell? ⟨bm, 12, none⟩ = some (.slice sa SN sc) ∧ V.cell? ⟨bm, 13, none⟩ = some (.slice ea EN ec) ∧ V.cell? ⟨bm, 14, none⟩ = some (.int .i64 ti))) := fun V hV => by
      have h1 := HKM.out.below hV.out HKM.out.lt
      exact ⟨hV, h1.cell rfl, h1.cell rfl, h1.cell rfl, h1.cell rfl, h1.cell rfl, h1.cell rfl, h1.cell rfl, h1.cell rfl, h1.cell rfl, h1.cell rfl, h1.cell rfl, h1.cell rfl, h1.cell rfl, h1.cell rfl, h1.cell rfl⟩
    have HEND : Hid (∀ V b E, RaTo B U V x b ro → ((E = 0 ∧ takesA a ⟨kd, fr, tt, (br, bn), sl, ⟨⟨np, tk, ct, ep, cut⟩, a_1, c⟩, va, vc, vs, sa, sc, seen, ea, ec, evs, ti⟩ = true ∧ kindA a ⟨kd, fr, tt, (br, bn), sl, ⟨⟨np, tk, ct, ep, cut⟩, a_1, c⟩, va, vc, vs, sa, sc, seen, ea, ec, evs, ti⟩ ≠ 5 ∧ b = afterA a ⟨kd, fr, tt, (br, bn), sl, ⟨⟨np, tk, ct, ep, cut⟩, a_1, c⟩, va, vc, vs, sa, sc, seen, ea, ec, evs, ti⟩) ∨ (E = 10 ∧ b = a ∧ ¬ (takesA a ⟨kd, fr, tt, (br, bn), sl, ⟨⟨np, tk, ct, ep, cut⟩, a_1, c⟩, va, vc, vs, sa, sc, seen, ea, ec, evs, ti⟩ = true ∧ kindA a ⟨kd, fr, tt, (br, bn), sl, ⟨⟨np, tk, ct, ep, cut⟩, a_1, c⟩, va, vc, vs, sa, sc, seen, ea, ec, evs, ti⟩ ≠ 5))) → RplD B w x a ro rec (.returned (.int .i64 E)) V) := fun V b E hto hor => by
      obtain ⟨xs', ro', rc', h1, h2, h3⟩ := hto
      refine ⟨b, E, rfl, ⟨xs', ro', rc', h1, (Turns.of_below (F := FootR x ro) HBU.out (Nat.le_refl _)).trans h2 (fun i hi => .inl hi), fun q hq => (h3 q hq).imp id (fun h4 => Nat.le_trans HBU.out.size h4)⟩, ?_⟩
      rcases hor with ⟨h4, h5, h6, h7⟩ | ⟨h4, h5, h6⟩
      · exact .inl ⟨h4, ⟨kd, fr, tt, (br, bn), sl, ⟨⟨np, tk, ct, ep, cut⟩, a_1, c⟩, va, vc, vs, sa, sc, seen, ea, ec, evs, ti⟩, HSZ.out, HPM.out, h5, h6, h7⟩
      · refine .inr ⟨h4, h5, fun ⟨y, _, hy, hty, hky⟩ => ?_⟩
        rw [HPM.out] at hy
        have hd : y.d = MsM.d ⟨kd, fr, tt, (br, bn), sl, ⟨⟨np, tk, ct, ep, cut⟩, a_1, c⟩, va, vc, vs, sa, sc, seen, ea, ec, evs, ti⟩ := by injection hy with hy; injection hy with hy; exact hy.symm
        exact h6 ⟨(takes_d hd).symm.trans hty, fun hh => hky ((kind_d hd).trans hh)⟩
    clear hl hp
    go_wp2
    rw [← HU.out, ← HBM.out]
    refine wp_region_noPanic ?_
    refine wp_region_K 11 (fun V => ScL U V ∧ V.cell? ⟨bm, 0, none⟩ = some (.int .i64 kd) ∧ V.cell? ⟨bm, 1, none⟩ = some (.int .i64 fr) ∧ V.cell? ⟨bm, 2, none⟩ = some (.int .i64 tt) ∧ V.cell? ⟨bm, 3, none⟩ = some (.int .i64 br) ∧ V.cell? ⟨bm, 4, none⟩ = some (.int .i64 bn) ∧ V.cell? ⟨bm, 5, none⟩ = some (.int .i64 sl) ∧ V.cell? ⟨bm, 6, none⟩ = some (.bool np) ∧ V.cell? ⟨bm, 7, none⟩ = some (.string tk) ∧ V.cell? ⟨bm, 8, none⟩ = some (.string ct) ∧ V.cell? ⟨bm, 9, none⟩ = some (.int .i64 ep) ∧ V.cell? ⟨bm, 10, none⟩ = some (.slice a_1 XN c) ∧ V.cell? ⟨bm, 11, none⟩ = some (.slice va VN vc) ∧ V.cell? ⟨bm, 12, none⟩ = some (.slice sa SN sc) ∧ V.cell? ⟨bm, 13, none⟩ = some (.slice ea EN ec) ∧ V.cell? ⟨bm, 14, none⟩ = some (.int .i64 ti)) (by kernel_rfl) (HSA.out _ (ScL.start U).dr) (fun hHeld => ?_)
    have hs0 := (ScL.start U).dr
    refine wpAnyK_take (i := 0) (oi := { dst := some 19, op := Go.Op.move (Go.Operand.tmp 0), type := 28, pos := "ref.go:112", after := #[], guard := none }) (v := ?vqq0) [] rfl (by kernel_rfl) (by kernel_rfl) (by kernel_rfl) (by kernel_rfl) (by kernel_rfl) (fun _ _ _ h => h) (Or.inl ⟨by rfl, ?hyqq0⟩) (by assumption) ?restqq0
    case hyqq0 => (intro w0 hSw; (try dsimp only at hSw); go_simp; try with_reducible rfl)
    simp only [Act.put, List.setIfInBounds_toArray, List.set_cons_zero, List.set_cons_succ]
    refine wpAnyK_take (i := 2) (oi := { dst := some 21, op := Go.Op.load 43 (Go.Operand.tmp 5), type := 43, pos := "ref.go:112", after := #[], guard := none }) (v := ?vqq2) [] rfl (by kernel_rfl) (by kernel_rfl) (by kernel_rfl) (by kernel_rfl) (by kernel_rfl) (fun _ _ _ h => h) (Or.inl ⟨by rfl, ?hyqq2⟩) (by assumption) ?restqq2
    case hyqq2 => (intro w0 hSw; (try dsimp only at hSw); go_simp; try with_reducible rfl)
    simp only [Act.put, List.setIfInBounds_toArray, List.set_cons_zero, List.set_cons_succ]
    refine wpAnyK_ready (rs := [1, 8]) (by kernel_rfl) (by simp) ?_
    refine AllReadyK.cons (o := { dst := some 20, op := Go.Op.call { callee := Go.Callee.value (Go.Operand.func 36), args := #[Go.Operand.tmp 19], argTypes := #[28] }, type := 28, pos := "ref.go:112", after := #[{ on := 0, ground := Go.Ground.data }], guard := none }) rfl (fun K hK => ?_) (AllReadyK.cons (o := { dst := some 7, op := Go.Op.alloc 43, type := 0, pos := "ref.go:112", after := #[], guard := none }) rfl (fun K hK => ?_) AllReadyK.nil)
    · go_simp
      refine (HFK.out _ (by (repeat (first | assumption | exact ScL.start _ | apply ScL.dr | apply ScL.alloc)))).mono ?_
      rintro e w5 ⟨x5, G, rfl, HG5, HON5, hv5⟩
      go_simp
      have hs5 : ScL U w5 := hs0.go hv5.out
      refine hK.out _ _ (.inr (HSA.out _ (by (repeat (first | assumption | exact ScL.start _ | apply ScL.dr | apply ScL.alloc))))) (fun hHeld => ?_)
      have hHeld := hHeld.resolve_right (by decide)
      clear hK K
      try simp only [Act.put, List.setIfInBounds_toArray, List.set_cons_zero, List.set_cons_succ]
      refine wpAnyK_ready (rs := [3, 8]) (by kernel_rfl) (by simp) ?_
      refine AllReadyK.cons (o := { dst := some 22, op := Go.Op.call { callee := Go.Callee.value (Go.Operand.func 10), args := #[Go.Operand.tmp 20, Go.Operand.tmp 21], argTypes := #[28, 43] }, type := 44, pos := "ref.go:112", after := #[{ on := 1, ground := Go.Ground.data }, { on := 2, ground := Go.Ground.data }, { on := 1, ground := Go.Ground.chain }], guard := none }) rfl (fun K hK => ?_) (AllReadyK.cons (o := { dst := some 7, op := Go.Op.alloc 43, type := 0, pos := "ref.go:112", after := #[], guard := none }) rfl (fun K hK => ?_) AllReadyK.nil)
      · go_simp
        refine (HON5.out _ (by (repeat (first | assumption | exact ScL.start _ | apply ScL.dr | apply ScL.alloc)))).mono ?_
        rintro e w6 ⟨kk, nd, fr', r', n', sl', np', vo', N', vc', R', ok, b', rfl, HOK, hto6, hs6⟩
        go_simp
        refine hK.out _ _ (.inr (HSA.out _ (by (repeat (first | assumption | exact ScL.start _ | apply ScL.dr | apply ScL.alloc))))) (fun hHeld => ?_)
        have hHeld := hHeld.resolve_right (by decide)
        clear hK K
        try simp only [Act.put, List.setIfInBounds_toArray, List.set_cons_zero, List.set_cons_succ]
        refine wpAnyK_take (i := 4) (oi := { dst := some 18, op := Go.Op.move (Go.Operand.tmp 22), type := 44, pos := "ref.go:112", after := #[{ on := 3, ground := Go.Ground.data }], guard := none }) (v := ?vqq4x1) [] rfl (by kernel_rfl) (by kernel_rfl) (by kernel_rfl) (by kernel_rfl) (by kernel_rfl) (fun _ _ _ h => h) (Or.inl ⟨by rfl, ?hyqq4x1⟩) (by assumption) ?restqq4x1
        case hyqq4x1 => (intro w0 hSw; (try dsimp only at hSw); go_simp; try with_reducible rfl)
        simp only [Act.put, List.setIfInBounds_toArray, List.set_cons_zero, List.set_cons_succ]
        refine wpAnyK_take (i := 5) (oi := { dst := some 23, op := Go.Op.extract (Go.Operand.tmp 18) 0, type := 43, pos := "ref.go:112", after := #[{ on := 4, ground := Go.Ground.data }], guard := none }) (v := ?vqq5x2) [] rfl (by kernel_rfl) (by kernel_rfl) (by kernel_rfl) (by kernel_rfl) (by kernel_rfl) (fun _ _ _ h => h) (Or.inl ⟨by rfl, ?hyqq5x2⟩) (by assumption) ?restqq5x2
        case hyqq5x2 => (intro w0 hSw; (try dsimp only at hSw); go_simp; try with_reducible rfl)
        simp only [Act.put, List.setIfInBounds_toArray, List.set_cons_zero, List.set_cons_succ]
        refine wpAnyK_take (i := 6) (oi := { dst := some 24, op := Go.Op.extract (Go.Operand.tmp 18) 1, type := 9, pos := "ref.go:112", after := #[{ on := 4, ground := Go.Ground.data }, { on := 9, ground := Go.Ground.gcOnly Go.Departure.lateStores }], guard := none }) (v := ?vqq6x3) [] rfl (by kernel_rfl) (by kernel_rfl) (by kernel_rfl) (by kernel_rfl) (by kernel_rfl) (fun _ _ _ h => h) (Or.inl ⟨by rfl, ?hyqq6x3⟩) (by assumption) ?restqq6x3
        case hyqq6x3 => (intro w0 hSw; (try dsimp only at hSw); go_simp; try with_reducible rfl)
        simp only [Act.put, List.setIfInBounds_toArray, List.set_cons_zero, List.set_cons_succ]
        refine wpAnyK_take (i := 7) (oi := { dst := some 25, op := Go.Op.extract (Go.Operand.tmp 18) 2, type := 4, pos := "ref.go:112", after := #[{ on := 4, ground := Go.Ground.data }, { on := 10, ground := Go.Ground.gcOnly Go.Departure.lateStores }], guard := none }) (v := ?vqq7x4) [] rfl (by kernel_rfl) (by kernel_rfl) (by kernel_rfl) (by kernel_rfl) (by kernel_rfl) (fun _ _ _ h => h) (Or.inl ⟨by rfl, ?hyqq7x4⟩) (by assumption) ?restqq7x4
        case hyqq7x4 => (intro w0 hSw; (try dsimp only at hSw); go_simp; try with_reducible rfl)
        simp only [Act.put, List.setIfInBounds_toArray, List.set_cons_zero, List.set_cons_succ]
        refine wpAnyK_ready (rs := [8]) (by kernel_rfl) (by simp) ?_
        refine AllReadyK.cons (o := { dst := some 7, op := Go.Op.alloc 43, type := 0, pos := "ref.go:112", after := #[], guard := none }) rfl (fun K hK => ?_) AllReadyK.nil
        go_simp
        refine hK.out _ _ (.inr (HSA.out _ (by (repeat (first | assumption | exact ScL.start _ | apply ScL.dr | apply ScL.alloc))))) (fun hHeld => ?_)
        have hHeld := hHeld.resolve_right (by decide)
        clear hK K
        try simp only [Act.put, List.setIfInBounds_toArray, List.set_cons_zero, List.set_cons_succ]
        refine wpAnyK_ready (rs := [9]) (by kernel_rfl) (by simp) ?_
        refine AllReadyK.cons (o := { dst := none, op := Go.Op.store 43 (Go.Operand.tmp 7) (Go.Operand.tmp 23), type := 0, pos := "ref.go:112", after := #[{ on := 8, ground := Go.Ground.data }, { on := 5, ground := Go.Ground.data }, { on := 3, ground := Go.Ground.chain }, { on := 0, ground := Go.Ground.phase }, { on := 1, ground := Go.Ground.phase }, { on := 2, ground := Go.Ground.phase }, { on := 3, ground := Go.Ground.phase }, { on := 4, ground := Go.Ground.phase }, { on := 5, ground := Go.Ground.phase }, { on := 6, ground := Go.Ground.textOnly Go.Departure.lateStores }, { on := 7, ground := Go.Ground.textOnly Go.Departure.lateStores }, { on := 8, ground := Go.Ground.phase }], guard := none }) rfl (fun K hK => ?_) AllReadyK.nil
        go_simp
        obtain ⟨W8, hW8⟩ : ∃ V, V = w6.alloc (.cells #[.int .i64 kk, .int .i64 nd, .int .i64 fr', .int .i64 r', .int .i64 n', .int .i64 sl', .bool np', .string ⟨#[]⟩, .string ⟨#[]⟩, .int .i64 0, .slice none 0 0, .slice vo' N' vc', .slice none 0 0, .slice none 0 0, .int .i64 0] 43) := ⟨_, rfl⟩
        have hk8 : Blk W8 w6.heap.size 43 [.int .i64 kk, .int .i64 nd, .int .i64 fr', .int .i64 r', .int .i64 n', .int .i64 sl', .bool np', .string ⟨#[]⟩, .string ⟨#[]⟩, .int .i64 0, .slice none 0 0, .slice vo' N' vc', .slice none 0 0, .slice none 0 0, .int .i64 0] := by rw [hW8]; exact Blk.new w6 _ _
        have hs8 : ScL U W8 := by rw [hW8]; exact hs6.alloc _
        refine hK.out _ _ (.inr (HSA.out _ (by (repeat (first | assumption | exact ScL.start _ | apply ScL.dr | apply ScL.alloc))))) (fun hHeld => ?_)
        have hHeld := hHeld.resolve_right (by decide)
        clear hK K
        try simp only [Act.put, List.setIfInBounds_toArray, List.set_cons_zero, List.set_cons_succ]
        refine wpAnyK_take (i := 10) (oi := { dst := some 8, op := Go.Op.assign (Go.Operand.tmp 24), type := 9, pos := "ref.go:112", after := #[{ on := 6, ground := Go.Ground.data }, { on := 9, ground := Go.Ground.chain }, { on := 0, ground := Go.Ground.phase }, { on := 1, ground := Go.Ground.phase }, { on := 2, ground := Go.Ground.phase }, { on := 3, ground := Go.Ground.phase }, { on := 4, ground := Go.Ground.phase }, { on := 5, ground := Go.Ground.phase }, { on := 6, ground := Go.Ground.phase }, { on := 7, ground := Go.Ground.textOnly Go.Departure.lateStores }, { on := 8, ground := Go.Ground.phase }, { on := 9, ground := Go.Ground.phase }], guard := none }) (v := ?vqq10x5) [] rfl (by kernel_rfl) (by kernel_rfl) (by kernel_rfl) (by kernel_rfl) (by kernel_rfl) (fun _ _ _ h => h) (Or.inl ⟨by rfl, ?hyqq10x5⟩) (by assumption) ?restqq10x5
        case hyqq10x5 => (intro w0 hSw; (try dsimp only at hSw); go_simp; try with_reducible rfl)
        simp only [Act.put, List.setIfInBounds_toArray, List.set_cons_zero, List.set_cons_succ]
        refine wpAnyK_ready (rs := [11]) (by kernel_rfl) (by simp) ?_
        refine AllReadyK.cons (o := { dst := some 9, op := Go.Op.assign (Go.Operand.tmp 25), type := 4, pos := "ref.go:112", after := #[{ on := 7, ground := Go.Ground.data }, { on := 10, ground := Go.Ground.chain }, { on := 0, ground := Go.Ground.phase }, { on := 1, ground := Go.Ground.phase }, { on := 2, ground := Go.Ground.phase }, { on := 3, ground := Go.Ground.phase }, { on := 4, ground := Go.Ground.phase }, { on := 5, ground := Go.Ground.phase }, { on := 6, ground := Go.Ground.phase }, { on := 7, ground := Go.Ground.phase }, { on := 8, ground := Go.Ground.phase }, { on := 9, ground := Go.Ground.phase }, { on := 10, ground := Go.Ground.phase }], guard := none }) rfl (fun K hK => ?_) AllReadyK.nil
        go_simp
        refine hK.out _ _ (.inl rfl) (fun _ => ?_)
        clear hK K
        try simp only [Act.put, List.setIfInBounds_toArray, List.set_cons_zero, List.set_cons_succ]
        refine wpAnyK_done (by kernel_rfl) ?_ _
        refine NoPanic.normal ?_
        have HS8 := hid hs8
        have HK8 := hid hk8
        have HW8 := hid hW8
        clear hHeld hs0 hs6 hs8 hk8 hW8 HON5 HFK
        have r0 := HK8.out.cell (i := 0) rfl
        rw [HW8.out] at r0
        have HNOT : Hid (¬ (takesA a ⟨kd, fr, tt, (br, bn), sl, ⟨⟨np, tk, ct, ep, cut⟩, a_1, c⟩, va, vc, vs, sa, sc, seen, ea, ec, evs, ti⟩ = true ∧ kindA a ⟨kd, fr, tt, (br, bn), sl, ⟨⟨np, tk, ct, ep, cut⟩, a_1, c⟩, va, vc, vs, sa, sc, seen, ea, ec, evs, ti⟩ ≠ 5) → RplD B w x a ro rec (.returned (.int .i64 10)) W8) := fun hn => HEND.out W8 a 10 (RaTo.same HIN.out HS8.out.out) (.inr ⟨rfl, rfl, hn⟩)
        cases ok
        · have HFI := hid (HNOT.out (fun hh => by have h1 := HOK.out.is; rw [hh.1] at h1; cases h1))
          clear HNOT HEND
          go_wp2
          go_ret
          rw [HW8.out] at HFI
          first | exact HFI.out | (have h9 := HFI.out; simpa using h9)
        · have hkk := (HOK.out.yes rfl).1
          by_cases h5 : kk = 5
          · have HFI := hid (HNOT.out (fun hh => hh.2 (by rw [← hkk]; exact h5)))
            subst h5
            clear HNOT HEND hkk
            go_wp2
            go_ret
            rw [HW8.out] at HFI
            first | exact HFI.out | (have h9 := HFI.out; simpa using h9)
          · have h5b : (kk == 5) = false := beq_eq_false_iff_ne.2 h5
            have HNK : Hid (kindA a ⟨kd, fr, tt, (br, bn), sl, ⟨⟨np, tk, ct, ep, cut⟩, a_1, c⟩, va, vc, vs, sa, sc, seen, ea, ec, evs, ti⟩ ≠ 5) := by rw [← hkk]; exact hid h5
            have HON := hid ((HIN.out.below HS8.out.out).onX (Nat.le_trans HBB2.out HS8.out.size) ⟨kd, fr, tt, (br, bn), sl, ⟨⟨np, tk, ct, ep, cut⟩, a_1, c⟩, va, vc, vs, sa, sc, seen, ea, ec, evs, ti⟩ (HMN.out.ok.below HS8.out.out) (HSM.out.below HS8.out.out))
            simp only [MsM.val] at HON
            rw [HXN.out, HVN.out, HSN.out, HEN.out] at HON
            obtain ⟨_, m0, m1, m2, m3, m4, m5, m6, m7, m8, m9, m10, m11, m12, m13, m14⟩ := HSA.out _ HS8.out
            rw [HW8.out] at HON m0 m1 m2 m3 m4 m5 m6 m7 m8 m9 m10 m11 m12 m13 m14
            clear HNOT hkk h5
            go_wp2_with fail
            refine HON.out.mono ?_
            rintro e w9 ⟨kk2, nd2, fr2, r2, n2, sl2, np2, vo2, N2, vc2, R2, ok2, b2, rfl, hk2, hto⟩
            rw [← HW8.out] at hto
            have htk := HOK.out.is
            have HFI : Hid (RplD B w x a ro rec (.returned (.int .i64 0)) w9) := by
              have hb2 : b2 = afterA a ⟨kd, fr, tt, (br, bn), sl, ⟨⟨np, tk, ct, ep, cut⟩, a_1, c⟩, va, vc, vs, sa, sc, seen, ea, ec, evs, ti⟩ := (hk2.out.yes (hk2.out.is.symm.trans htk)).2
              obtain ⟨xs2, ro2, rc2, h1, h2, h3⟩ := hto
              refine HEND.out w9 b2 0 ⟨xs2, ro2, rc2, h1, (Turns.of_below (F := FootR x ro) HS8.out.out (Nat.le_refl _)).trans h2 (fun i hi => .inl hi), fun q hq => (h3 q hq).imp id (fun h4 => Nat.le_trans HS8.out.size h4)⟩ (.inl ⟨rfl, htk, HNK.out, hb2⟩)
            clear hto hk2 m0 m1 m2 m3 m4 m5 m6 m7 m8 m9 m10 m11 m12 m13 m14 HEND
            go_wp2
            go_ret
            exact HFI.out
      · go_simp
        have hk7 : Blk (w5.alloc (.cells #[.int .i64 0, .int .i64 0, .int .i64 0, .int .i64 0, .int .i64 0, .int .i64 0, .bool false, .string ⟨#[]⟩, .string ⟨#[]⟩, .int .i64 0, .slice none 0 0, .slice none 0 0, .slice none 0 0, .slice none 0 0, .int .i64 0] 43)) w5.heap.size 43 [.int .i64 0, .int .i64 0, .int .i64 0, .int .i64 0, .int .i64 0, .int .i64 0, .bool false, .string ⟨#[]⟩, .string ⟨#[]⟩, .int .i64 0, .slice none 0 0, .slice none 0 0, .slice none 0 0, .slice none 0 0, .int .i64 0] := Blk.new w5 _ _
        refine hK.out _ _ (.inr (HSA.out _ (by (repeat (first | assumption | exact ScL.start _ | apply ScL.dr | apply ScL.alloc))))) (fun hHeld => ?_)
        have hHeld := hHeld.resolve_right (by decide)
        clear hK K
        try simp only [Act.put, List.setIfInBounds_toArray, List.set_cons_zero, List.set_cons_succ]
        obtain ⟨q7, hq7⟩ : ∃ q, q = w5.heap.size := ⟨_, rfl⟩
        obtain ⟨U7, hU7⟩ : ∃ V, V = w5.alloc (.cells #[.int .i64 0, .int .i64 0, .int .i64 0, .int .i64 0, .int .i64 0, .int .i64 0, .bool false, .string ⟨#[]⟩, .string ⟨#[]⟩, .int .i64 0, .slice none 0 0, .slice none 0 0, .slice none 0 0, .slice none 0 0, .int .i64 0] 43) := ⟨_, rfl⟩
        rw [← hU7, ← hq7]
        rw [← hU7, ← hq7] at hk7
        rw [← hU7] at hHeld
        have hv7 : ScL w5 U7 := by rw [hU7]; exact (ScL.start w5).alloc _
        have hqU : U.heap.size ≤ q7 := by rw [hq7]; exact hs5.size
        have hqw : w5.heap.size ≤ q7 := by rw [hq7]; exact Nat.le_refl _
        clear hq7 hU7
        refine wpAnyK_ready (rs := [3]) (by kernel_rfl) (by simp) ?_
        refine AllReadyK.cons (o := { dst := some 22, op := Go.Op.call { callee := Go.Callee.value (Go.Operand.func 10), args := #[Go.Operand.tmp 20, Go.Operand.tmp 21], argTypes := #[28, 43] }, type := 44, pos := "ref.go:112", after := #[{ on := 1, ground := Go.Ground.data }, { on := 2, ground := Go.Ground.data }, { on := 1, ground := Go.Ground.chain }], guard := none }) rfl (fun K hK => ?_) AllReadyK.nil
        go_simp
        refine (HON5.out _ (by (repeat (first | assumption | exact ScL.start _ | apply ScL.dr | apply ScL.alloc)))).mono ?_
        rintro e w6 ⟨kk, nd, fr', r', n', sl', np', vo', N', vc', R', ok, b', rfl, HOK, hto6, hs6⟩
        go_simp
        have hk7 := hto6.blk hk7 (fun hg => by have := (HG5.out _ hg).2; omega)
        refine hK.out _ _ (.inr (HSA.out _ (by (repeat (first | assumption | exact ScL.start _ | apply ScL.dr | apply ScL.alloc))))) (fun hHeld => ?_)
        have hHeld := hHeld.resolve_right (by decide)
        clear hK K
        try simp only [Act.put, List.setIfInBounds_toArray, List.set_cons_zero, List.set_cons_succ]
        refine wpAnyK_take (i := 4) (oi := { dst := some 18, op := Go.Op.move (Go.Operand.tmp 22), type := 44, pos := "ref.go:112", after := #[{ on := 3, ground := Go.Ground.data }], guard := none }) (v := ?vqq4x6) [] rfl (by kernel_rfl) (by kernel_rfl) (by kernel_rfl) (by kernel_rfl) (by kernel_rfl) (fun _ _ _ h => h) (Or.inl ⟨by rfl, ?hyqq4x6⟩) (by assumption) ?restqq4x6
        case hyqq4x6 => (intro w0 hSw; (try dsimp only at hSw); go_simp; try with_reducible rfl)
        simp only [Act.put, List.setIfInBounds_toArray, List.set_cons_zero, List.set_cons_succ]
        refine wpAnyK_take (i := 5) (oi := { dst := some 23, op := Go.Op.extract (Go.Operand.tmp 18) 0, type := 43, pos := "ref.go:112", after := #[{ on := 4, ground := Go.Ground.data }], guard := none }) (v := ?vqq5x7) [] rfl (by kernel_rfl) (by kernel_rfl) (by kernel_rfl) (by kernel_rfl) (by kernel_rfl) (fun _ _ _ h => h) (Or.inl ⟨by rfl, ?hyqq5x7⟩) (by assumption) ?restqq5x7
        case hyqq5x7 => (intro w0 hSw; (try dsimp only at hSw); go_simp; try with_reducible rfl)
        simp only [Act.put, List.setIfInBounds_toArray, List.set_cons_zero, List.set_cons_succ]
        refine wpAnyK_take (i := 6) (oi := { dst := some 24, op := Go.Op.extract (Go.Operand.tmp 18) 1, type := 9, pos := "ref.go:112", after := #[{ on := 4, ground := Go.Ground.data }, { on := 9, ground := Go.Ground.gcOnly Go.Departure.lateStores }], guard := none }) (v := ?vqq6x8) [] rfl (by kernel_rfl) (by kernel_rfl) (by kernel_rfl) (by kernel_rfl) (by kernel_rfl) (fun _ _ _ h => h) (Or.inl ⟨by rfl, ?hyqq6x8⟩) (by assumption) ?restqq6x8
        case hyqq6x8 => (intro w0 hSw; (try dsimp only at hSw); go_simp; try with_reducible rfl)
        simp only [Act.put, List.setIfInBounds_toArray, List.set_cons_zero, List.set_cons_succ]
        refine wpAnyK_take (i := 7) (oi := { dst := some 25, op := Go.Op.extract (Go.Operand.tmp 18) 2, type := 4, pos := "ref.go:112", after := #[{ on := 4, ground := Go.Ground.data }, { on := 10, ground := Go.Ground.gcOnly Go.Departure.lateStores }], guard := none }) (v := ?vqq7x9) [] rfl (by kernel_rfl) (by kernel_rfl) (by kernel_rfl) (by kernel_rfl) (by kernel_rfl) (fun _ _ _ h => h) (Or.inl ⟨by rfl, ?hyqq7x9⟩) (by assumption) ?restqq7x9
        case hyqq7x9 => (intro w0 hSw; (try dsimp only at hSw); go_simp; try with_reducible rfl)
        simp only [Act.put, List.setIfInBounds_toArray, List.set_cons_zero, List.set_cons_succ]
        have j0 := hk7.cell (i := 0) rfl
        have j1 := hk7.cell (i := 1) rfl
        have j2 := hk7.cell (i := 2) rfl
        have j3 := hk7.cell (i := 3) rfl
        have j4 := hk7.cell (i := 4) rfl
        have j5 := hk7.cell (i := 5) rfl
        have j6 := hk7.cell (i := 6) rfl
        have j7 := hk7.cell (i := 7) rfl
        have j8 := hk7.cell (i := 8) rfl
        have j9 := hk7.cell (i := 9) rfl
        have j10 := hk7.cell (i := 10) rfl
        have j11 := hk7.cell (i := 11) rfl
        have j12 := hk7.cell (i := 12) rfl
        have j13 := hk7.cell (i := 13) rfl
        have j14 := hk7.cell (i := 14) rfl
        have l0 := hk7.frozen 0
        have l1 := hk7.frozen 1
        have l2 := hk7.frozen 2
        have l3 := hk7.frozen 3
        have l4 := hk7.frozen 4
        have l5 := hk7.frozen 5
        have l6 := hk7.frozen 6
        have l7 := hk7.frozen 7
        have l8 := hk7.frozen 8
        have l9 := hk7.frozen 9
        have l10 := hk7.frozen 10
        have l11 := hk7.frozen 11
        have l12 := hk7.frozen 12
        have l13 := hk7.frozen 13
        have l14 := hk7.frozen 14
        refine wpAnyK_ready (rs := [9]) (by kernel_rfl) (by simp) ?_
        refine AllReadyK.cons (o := { dst := none, op := Go.Op.store 43 (Go.Operand.tmp 7) (Go.Operand.tmp 23), type := 0, pos := "ref.go:112", after := #[{ on := 8, ground := Go.Ground.data }, { on := 5, ground := Go.Ground.data }, { on := 3, ground := Go.Ground.chain }, { on := 0, ground := Go.Ground.phase }, { on := 1, ground := Go.Ground.phase }, { on := 2, ground := Go.Ground.phase }, { on := 3, ground := Go.Ground.phase }, { on := 4, ground := Go.Ground.phase }, { on := 5, ground := Go.Ground.phase }, { on := 6, ground := Go.Ground.textOnly Go.Departure.lateStores }, { on := 7, ground := Go.Ground.textOnly Go.Departure.lateStores }, { on := 8, ground := Go.Ground.phase }], guard := none }) rfl (fun K hK => ?_) AllReadyK.nil
        go_simp
        obtain ⟨W8, hW8⟩ : ∃ V, V = stQ15 w6 q7 (.int .i64 kk) (.int .i64 nd) (.int .i64 fr') (.int .i64 r') (.int .i64 n') (.int .i64 sl') (.bool np') (.string ⟨#[]⟩) (.string ⟨#[]⟩) (.int .i64 0) (.slice none 0 0) (.slice vo' N' vc') (.slice none 0 0) (.slice none 0 0) (.int .i64 0) := ⟨_, rfl⟩
        have hk8 : Blk W8 q7 43 [.int .i64 kk, .int .i64 nd, .int .i64 fr', .int .i64 r', .int .i64 n', .int .i64 sl', .bool np', .string ⟨#[]⟩, .string ⟨#[]⟩, .int .i64 0, .slice none 0 0, .slice vo' N' vc', .slice none 0 0, .slice none 0 0, .int .i64 0] := by rw [hW8]; exact stQ15_blk hk7 _ _ _ _ _ _ _ _ _ _ _ _ _ _ _
        have hs8 : ScL U W8 := by rw [hW8]; exact ⟨hs6.out.trans ((stQ15_turns _ _ _ _ _ _ _ _ _ _ _ _ _ _ _ _ _).below (fun i hi => by rw [hi]; exact hqU) hs6.size)⟩
        unfold stQ15 at hW8
        refine hK.out _ _ (.inr (HSA.out _ (by rw [← hW8]; exact hs8))) (fun hHeld => ?_)
        have hHeld := hHeld.resolve_right (by decide)
        clear hK K
        try simp only [Act.put, List.setIfInBounds_toArray, List.set_cons_zero, List.set_cons_succ]
        clear j0 l0 j1 l1 j2 l2 j3 l3 j4 l4 j5 l5 j6 l6 j7 l7 j8 l8 j9 l9 j10 l10 j11 l11 j12 l12 j13 l13 j14 l14
        refine wpAnyK_take (i := 10) (oi := { dst := some 8, op := Go.Op.assign (Go.Operand.tmp 24), type := 9, pos := "ref.go:112", after := #[{ on := 6, ground := Go.Ground.data }, { on := 9, ground := Go.Ground.chain }, { on := 0, ground := Go.Ground.phase }, { on := 1, ground := Go.Ground.phase }, { on := 2, ground := Go.Ground.phase }, { on := 3, ground := Go.Ground.phase }, { on := 4, ground := Go.Ground.phase }, { on := 5, ground := Go.Ground.phase }, { on := 6, ground := Go.Ground.phase }, { on := 7, ground := Go.Ground.textOnly Go.Departure.lateStores }, { on := 8, ground := Go.Ground.phase }, { on := 9, ground := Go.Ground.phase }], guard := none }) (v := ?vqq10x10) [] rfl (by kernel_rfl) (by kernel_rfl) (by kernel_rfl) (by kernel_rfl) (by kernel_rfl) (fun _ _ _ h => h) (Or.inl ⟨by rfl, ?hyqq10x10⟩) (by assumption) ?restqq10x10
        case hyqq10x10 => (intro w0 hSw; (try dsimp only at hSw); go_simp; try with_reducible rfl)
        simp only [Act.put, List.setIfInBounds_toArray, List.set_cons_zero, List.set_cons_succ]
        refine wpAnyK_ready (rs := [11]) (by kernel_rfl) (by simp) ?_
        refine AllReadyK.cons (o := { dst := some 9, op := Go.Op.assign (Go.Operand.tmp 25), type := 4, pos := "ref.go:112", after := #[{ on := 7, ground := Go.Ground.data }, { on := 10, ground := Go.Ground.chain }, { on := 0, ground := Go.Ground.phase }, { on := 1, ground := Go.Ground.phase }, { on := 2, ground := Go.Ground.phase }, { on := 3, ground := Go.Ground.phase }, { on := 4, ground := Go.Ground.phase }, { on := 5, ground := Go.Ground.phase }, { on := 6, ground := Go.Ground.phase }, { on := 7, ground := Go.Ground.phase }, { on := 8, ground := Go.Ground.phase }, { on := 9, ground := Go.Ground.phase }, { on := 10, ground := Go.Ground.phase }], guard := none }) rfl (fun K hK => ?_) AllReadyK.nil
        go_simp
        refine hK.out _ _ (.inl rfl) (fun _ => ?_)
        clear hK K
        try simp only [Act.put, List.setIfInBounds_toArray, List.set_cons_zero, List.set_cons_succ]
        refine wpAnyK_done (by kernel_rfl) ?_ _
        refine NoPanic.normal ?_
        have HS8 := hid hs8
        have HK8 := hid hk8
        have HW8 := hid hW8
        clear hHeld hs0 hs6 hs8 hk8 hW8 HON5 HFK
        have r0 := HK8.out.cell (i := 0) rfl
        rw [HW8.out] at r0
        have HNOT : Hid (¬ (takesA a ⟨kd, fr, tt, (br, bn), sl, ⟨⟨np, tk, ct, ep, cut⟩, a_1, c⟩, va, vc, vs, sa, sc, seen, ea, ec, evs, ti⟩ = true ∧ kindA a ⟨kd, fr, tt, (br, bn), sl, ⟨⟨np, tk, ct, ep, cut⟩, a_1, c⟩, va, vc, vs, sa, sc, seen, ea, ec, evs, ti⟩ ≠ 5) → RplD B w x a ro rec (.returned (.int .i64 10)) W8) := fun hn => HEND.out W8 a 10 (RaTo.same HIN.out HS8.out.out) (.inr ⟨rfl, rfl, hn⟩)
        cases ok
        · have HFI := hid (HNOT.out (fun hh => by have h1 := HOK.out.is; rw [hh.1] at h1; cases h1))
          clear HNOT HEND
          go_wp2
          go_ret
          rw [HW8.out] at HFI
          first | exact HFI.out | (have h9 := HFI.out; simpa using h9)
        · have hkk := (HOK.out.yes rfl).1
          by_cases h5 : kk = 5
          · have HFI := hid (HNOT.out (fun hh => hh.2 (by rw [← hkk]; exact h5)))
            subst h5
            clear HNOT HEND hkk
            go_wp2
            go_ret
            rw [HW8.out] at HFI
            first | exact HFI.out | (have h9 := HFI.out; simpa using h9)
          · have h5b : (kk == 5) = false := beq_eq_false_iff_ne.2 h5
            have HNK : Hid (kindA a ⟨kd, fr, tt, (br, bn), sl, ⟨⟨np, tk, ct, ep, cut⟩, a_1, c⟩, va, vc, vs, sa, sc, seen, ea, ec, evs, ti⟩ ≠ 5) := by rw [← hkk]; exact hid h5
            have HON := hid ((HIN.out.below HS8.out.out).onX (Nat.le_trans HBB2.out HS8.out.size) ⟨kd, fr, tt, (br, bn), sl, ⟨⟨np, tk, ct, ep, cut⟩, a_1, c⟩, va, vc, vs, sa, sc, seen, ea, ec, evs, ti⟩ (HMN.out.ok.below HS8.out.out) (HSM.out.below HS8.out.out))
            simp only [MsM.val] at HON
            rw [HXN.out, HVN.out, HSN.out, HEN.out] at HON
            obtain ⟨_, m0, m1, m2, m3, m4, m5, m6, m7, m8, m9, m10, m11, m12, m13, m14⟩ := HSA.out _ HS8.out
            rw [HW8.out] at HON m0 m1 m2 m3 m4 m5 m6 m7 m8 m9 m10 m11 m12 m13 m14
            clear HNOT hkk h5
            go_wp2_with fail
            refine HON.out.mono ?_
            rintro e w9 ⟨kk2, nd2, fr2, r2, n2, sl2, np2, vo2, N2, vc2, R2, ok2, b2, rfl, hk2, hto⟩
            rw [← HW8.out] at hto
            have htk := HOK.out.is
            have HFI : Hid (RplD B w x a ro rec (.returned (.int .i64 0)) w9) := by
              have hb2 : b2 = afterA a ⟨kd, fr, tt, (br, bn), sl, ⟨⟨np, tk, ct, ep, cut⟩, a_1, c⟩, va, vc, vs, sa, sc, seen, ea, ec, evs, ti⟩ := (hk2.out.yes (hk2.out.is.symm.trans htk)).2
              obtain ⟨xs2, ro2, rc2, h1, h2, h3⟩ := hto
              refine HEND.out w9 b2 0 ⟨xs2, ro2, rc2, h1, (Turns.of_below (F := FootR x ro) HS8.out.out (Nat.le_refl _)).trans h2 (fun i hi => .inl hi), fun q hq => (h3 q hq).imp id (fun h4 => Nat.le_trans HS8.out.size h4)⟩ (.inl ⟨rfl, htk, HNK.out, hb2⟩)
            clear hto hk2 m0 m1 m2 m3 m4 m5 m6 m7 m8 m9 m10 m11 m12 m13 m14 HEND
            go_wp2
            go_ret
            exact HFI.out
    · go_simp
      have hk7 : Blk (U.alloc (.cells #[.int .i64 0, .int .i64 0, .int .i64 0, .int .i64 0, .int .i64 0, .int .i64 0, .bool false, .string ⟨#[]⟩, .string ⟨#[]⟩, .int .i64 0, .slice none 0 0, .slice none 0 0, .slice none 0 0, .slice none 0 0, .int .i64 0] 43)).drew U.heap.size 43 [.int .i64 0, .int .i64 0, .int .i64 0, .int .i64 0, .int .i64 0, .int .i64 0, .bool false, .string ⟨#[]⟩, .string ⟨#[]⟩, .int .i64 0, .slice none 0 0, .slice none 0 0, .slice none 0 0, .slice none 0 0, .int .i64 0] := (Blk.new U _ _).drew
      have hs1 := ((ScL.start U).alloc (.cells #[.int .i64 0, .int .i64 0, .int .i64 0, .int .i64 0, .int .i64 0, .int .i64 0, .bool false, .string ⟨#[]⟩, .string ⟨#[]⟩, .int .i64 0, .slice none 0 0, .slice none 0 0, .slice none 0 0, .slice none 0 0, .int .i64 0] 43)).dr
      refine hK.out _ _ (.inr (HSA.out _ (by (repeat (first | assumption | exact ScL.start _ | apply ScL.dr | apply ScL.alloc))))) (fun hHeld => ?_)
      have hHeld := hHeld.resolve_right (by decide)
      clear hK K
      try simp only [Act.put, List.setIfInBounds_toArray, List.set_cons_zero, List.set_cons_succ]
      obtain ⟨q7, hq7⟩ : ∃ q, q = U.heap.size := ⟨_, rfl⟩
      obtain ⟨U7, hU7⟩ : ∃ V, V = (U.alloc (.cells #[.int .i64 0, .int .i64 0, .int .i64 0, .int .i64 0, .int .i64 0, .int .i64 0, .bool false, .string ⟨#[]⟩, .string ⟨#[]⟩, .int .i64 0, .slice none 0 0, .slice none 0 0, .slice none 0 0, .slice none 0 0, .int .i64 0] 43)).drew := ⟨_, rfl⟩
      rw [← hU7, ← hq7]
      rw [← hU7, ← hq7] at hk7
      rw [← hU7] at hHeld hs1
      have hqU : U.heap.size ≤ q7 := by rw [hq7]; exact Nat.le_refl _
      have hlt7 := hk7.lt
      clear hq7 hU7
      refine wpAnyK_ready (rs := [1]) (by kernel_rfl) (by simp) ?_
      refine AllReadyK.cons (o := { dst := some 20, op := Go.Op.call { callee := Go.Callee.value (Go.Operand.func 36), args := #[Go.Operand.tmp 19], argTypes := #[28] }, type := 28, pos := "ref.go:112", after := #[{ on := 0, ground := Go.Ground.data }], guard := none }) rfl (fun K hK => ?_) AllReadyK.nil
      go_simp
      refine (HFK.out _ hs1).mono ?_
      rintro e w5 ⟨x5, G, rfl, HG5, HON5, hv5⟩
      have hs5 : ScL U w5 := hs1.go hv5.out
      have hk7 := hk7.below hv5.out hk7.lt
      go_simp
      refine hK.out _ _ (.inr (HSA.out _ (by (repeat (first | assumption | exact ScL.start _ | apply ScL.dr | apply ScL.alloc))))) (fun hHeld => ?_)
      have hHeld := hHeld.resolve_right (by decide)
      clear hK K
      try simp only [Act.put, List.setIfInBounds_toArray, List.set_cons_zero, List.set_cons_succ]
      refine wpAnyK_ready (rs := [3]) (by kernel_rfl) (by simp) ?_
      refine AllReadyK.cons (o := { dst := some 22, op := Go.Op.call { callee := Go.Callee.value (Go.Operand.func 10), args := #[Go.Operand.tmp 20, Go.Operand.tmp 21], argTypes := #[28, 43] }, type := 44, pos := "ref.go:112", after := #[{ on := 1, ground := Go.Ground.data }, { on := 2, ground := Go.Ground.data }, { on := 1, ground := Go.Ground.chain }], guard := none }) rfl (fun K hK => ?_) AllReadyK.nil
      go_simp
      refine (HON5.out _ (by (repeat (first | assumption | exact ScL.start _ | apply ScL.dr | apply ScL.alloc)))).mono ?_
      rintro e w6 ⟨kk, nd, fr', r', n', sl', np', vo', N', vc', R', ok, b', rfl, HOK, hto6, hs6⟩
      go_simp
      have hk7 := hto6.blk hk7 (fun hg => by have h1 := (HG5.out _ hg).1; omega)
      refine hK.out _ _ (.inr (HSA.out _ (by (repeat (first | assumption | exact ScL.start _ | apply ScL.dr | apply ScL.alloc))))) (fun hHeld => ?_)
      have hHeld := hHeld.resolve_right (by decide)
      clear hK K
      try simp only [Act.put, List.setIfInBounds_toArray, List.set_cons_zero, List.set_cons_succ]
      refine wpAnyK_take (i := 4) (oi := { dst := some 18, op := Go.Op.move (Go.Operand.tmp 22), type := 44, pos := "ref.go:112", after := #[{ on := 3, ground := Go.Ground.data }], guard := none }) (v := ?vqq4x11) [] rfl (by kernel_rfl) (by kernel_rfl) (by kernel_rfl) (by kernel_rfl) (by kernel_rfl) (fun _ _ _ h => h) (Or.inl ⟨by rfl, ?hyqq4x11⟩) (by assumption) ?restqq4x11
      case hyqq4x11 => (intro w0 hSw; (try dsimp only at hSw); go_simp; try with_reducible rfl)
      simp only [Act.put, List.setIfInBounds_toArray, List.set_cons_zero, List.set_cons_succ]
      refine wpAnyK_take (i := 5) (oi := { dst := some 23, op := Go.Op.extract (Go.Operand.tmp 18) 0, type := 43, pos := "ref.go:112", after := #[{ on := 4, ground := Go.Ground.data }], guard := none }) (v := ?vqq5x12) [] rfl (by kernel_rfl) (by kernel_rfl) (by kernel_rfl) (by kernel_rfl) (by kernel_rfl) (fun _ _ _ h => h) (Or.inl ⟨by rfl, ?hyqq5x12⟩) (by assumption) ?restqq5x12
      case hyqq5x12 => (intro w0 hSw; (try dsimp only at hSw); go_simp; try with_reducible rfl)
      simp only [Act.put, List.setIfInBounds_toArray, List.set_cons_zero, List.set_cons_succ]
      refine wpAnyK_take (i := 6) (oi := { dst := some 24, op := Go.Op.extract (Go.Operand.tmp 18) 1, type := 9, pos := "ref.go:112", after := #[{ on := 4, ground := Go.Ground.data }, { on := 9, ground := Go.Ground.gcOnly Go.Departure.lateStores }], guard := none }) (v := ?vqq6x13) [] rfl (by kernel_rfl) (by kernel_rfl) (by kernel_rfl) (by kernel_rfl) (by kernel_rfl) (fun _ _ _ h => h) (Or.inl ⟨by rfl, ?hyqq6x13⟩) (by assumption) ?restqq6x13
      case hyqq6x13 => (intro w0 hSw; (try dsimp only at hSw); go_simp; try with_reducible rfl)
      simp only [Act.put, List.setIfInBounds_toArray, List.set_cons_zero, List.set_cons_succ]
      refine wpAnyK_take (i := 7) (oi := { dst := some 25, op := Go.Op.extract (Go.Operand.tmp 18) 2, type := 4, pos := "ref.go:112", after := #[{ on := 4, ground := Go.Ground.data }, { on := 10, ground := Go.Ground.gcOnly Go.Departure.lateStores }], guard := none }) (v := ?vqq7x14) [] rfl (by kernel_rfl) (by kernel_rfl) (by kernel_rfl) (by kernel_rfl) (by kernel_rfl) (fun _ _ _ h => h) (Or.inl ⟨by rfl, ?hyqq7x14⟩) (by assumption) ?restqq7x14
      case hyqq7x14 => (intro w0 hSw; (try dsimp only at hSw); go_simp; try with_reducible rfl)
      simp only [Act.put, List.setIfInBounds_toArray, List.set_cons_zero, List.set_cons_succ]
      have j0 := hk7.cell (i := 0) rfl
      have j1 := hk7.cell (i := 1) rfl
      have j2 := hk7.cell (i := 2) rfl
      have j3 := hk7.cell (i := 3) rfl
      have j4 := hk7.cell (i := 4) rfl
      have j5 := hk7.cell (i := 5) rfl
      have j6 := hk7.cell (i := 6) rfl
      have j7 := hk7.cell (i := 7) rfl
      have j8 := hk7.cell (i := 8) rfl
      have j9 := hk7.cell (i := 9) rfl
      have j10 := hk7.cell (i := 10) rfl
      have j11 := hk7.cell (i := 11) rfl
      have j12 := hk7.cell (i := 12) rfl
      have j13 := hk7.cell (i := 13) rfl
      have j14 := hk7.cell (i := 14) rfl
      have l0 := hk7.frozen 0
      have l1 := hk7.frozen 1
      have l2 := hk7.frozen 2
      have l3 := hk7.frozen 3
      have l4 := hk7.frozen 4
      have l5 := hk7.frozen 5
      have l6 := hk7.frozen 6
      have l7 := hk7.frozen 7
      have l8 := hk7.frozen 8
      have l9 := hk7.frozen 9
      have l10 := hk7.frozen 10
      have l11 := hk7.frozen 11
      have l12 := hk7.frozen 12
      have l13 := hk7.frozen 13
      have l14 := hk7.frozen 14
      refine wpAnyK_ready (rs := [9]) (by kernel_rfl) (by simp) ?_
      refine AllReadyK.cons (o := { dst := none, op := Go.Op.store 43 (Go.Operand.tmp 7) (Go.Operand.tmp 23), type := 0, pos := "ref.go:112", after := #[{ on := 8, ground := Go.Ground.data }, { on := 5, ground := Go.Ground.data }, { on := 3, ground := Go.Ground.chain }, { on := 0, ground := Go.Ground.phase }, { on := 1, ground := Go.Ground.phase }, { on := 2, ground := Go.Ground.phase }, { on := 3, ground := Go.Ground.phase }, { on := 4, ground := Go.Ground.phase }, { on := 5, ground := Go.Ground.phase }, { on := 6, ground := Go.Ground.textOnly Go.Departure.lateStores }, { on := 7, ground := Go.Ground.textOnly Go.Departure.lateStores }, { on := 8, ground := Go.Ground.phase }], guard := none }) rfl (fun K hK => ?_) AllReadyK.nil
      go_simp
      obtain ⟨W8, hW8⟩ : ∃ V, V = stQ15 w6 q7 (.int .i64 kk) (.int .i64 nd) (.int .i64 fr') (.int .i64 r') (.int .i64 n') (.int .i64 sl') (.bool np') (.string ⟨#[]⟩) (.string ⟨#[]⟩) (.int .i64 0) (.slice none 0 0) (.slice vo' N' vc') (.slice none 0 0) (.slice none 0 0) (.int .i64 0) := ⟨_, rfl⟩
      have hk8 : Blk W8 q7 43 [.int .i64 kk, .int .i64 nd, .int .i64 fr', .int .i64 r', .int .i64 n', .int .i64 sl', .bool np', .string ⟨#[]⟩, .string ⟨#[]⟩, .int .i64 0, .slice none 0 0, .slice vo' N' vc', .slice none 0 0, .slice none 0 0, .int .i64 0] := by rw [hW8]; exact stQ15_blk hk7 _ _ _ _ _ _ _ _ _ _ _ _ _ _ _
      have hs8 : ScL U W8 := by rw [hW8]; exact ⟨hs6.out.trans ((stQ15_turns _ _ _ _ _ _ _ _ _ _ _ _ _ _ _ _ _).below (fun i hi => by rw [hi]; exact hqU) hs6.size)⟩
      unfold stQ15 at hW8
      refine hK.out _ _ (.inr (HSA.out _ (by rw [← hW8]; exact hs8))) (fun hHeld => ?_)
      have hHeld := hHeld.resolve_right (by decide)
      clear hK K
      try simp only [Act.put, List.setIfInBounds_toArray, List.set_cons_zero, List.set_cons_succ]
      clear j0 l0 j1 l1 j2 l2 j3 l3 j4 l4 j5 l5 j6 l6 j7 l7 j8 l8 j9 l9 j10 l10 j11 l11 j12 l12 j13 l13 j14 l14
      refine wpAnyK_take (i := 10) (oi := { dst := some 8, op := Go.Op.assign (Go.Operand.tmp 24), type := 9, pos := "ref.go:112", after := #[{ on := 6, ground := Go.Ground.data }, { on := 9, ground := Go.Ground.chain }, { on := 0, ground := Go.Ground.phase }, { on := 1, ground := Go.Ground.phase }, { on := 2, ground := Go.Ground.phase }, { on := 3, ground := Go.Ground.phase }, { on := 4, ground := Go.Ground.phase }, { on := 5, ground := Go.Ground.phase }, { on := 6, ground := Go.Ground.phase }, { on := 7, ground := Go.Ground.textOnly Go.Departure.lateStores }, { on := 8, ground := Go.Ground.phase }, { on := 9, ground := Go.Ground.phase }], guard := none }) (v := ?vqq10x15) [] rfl (by kernel_rfl) (by kernel_rfl) (by kernel_rfl) (by kernel_rfl) (by kernel_rfl) (fun _ _ _ h => h) (Or.inl ⟨by rfl, ?hyqq10x15⟩) (by assumption) ?restqq10x15
      case hyqq10x15 => (intro w0 hSw; (try dsimp only at hSw); go_simp; try with_reducible rfl)
      simp only [Act.put, List.setIfInBounds_toArray, List.set_cons_zero, List.set_cons_succ]
      refine wpAnyK_ready (rs := [11]) (by kernel_rfl) (by simp) ?_
      refine AllReadyK.cons (o := { dst := some 9, op := Go.Op.assign (Go.Operand.tmp 25), type := 4, pos := "ref.go:112", after := #[{ on := 7, ground := Go.Ground.data }, { on := 10, ground := Go.Ground.chain }, { on := 0, ground := Go.Ground.phase }, { on := 1, ground := Go.Ground.phase }, { on := 2, ground := Go.Ground.phase }, { on := 3, ground := Go.Ground.phase }, { on := 4, ground := Go.Ground.phase }, { on := 5, ground := Go.Ground.phase }, { on := 6, ground := Go.Ground.phase }, { on := 7, ground := Go.Ground.phase }, { on := 8, ground := Go.Ground.phase }, { on := 9, ground := Go.Ground.phase }, { on := 10, ground := Go.Ground.phase }], guard := none }) rfl (fun K hK => ?_) AllReadyK.nil
      go_simp
      refine hK.out _ _ (.inl rfl) (fun _ => ?_)
      clear hK K
      try simp only [Act.put, List.setIfInBounds_toArray, List.set_cons_zero, List.set_cons_succ]
      refine wpAnyK_done (by kernel_rfl) ?_ _
      refine NoPanic.normal ?_
      have HS8 := hid hs8
      have HK8 := hid hk8
      have HW8 := hid hW8
      clear hHeld hs0 hs6 hs8 hk8 hW8 HON5 HFK
      have r0 := HK8.out.cell (i := 0) rfl
      rw [HW8.out] at r0
      have HNOT : Hid (¬ (takesA a ⟨kd, fr, tt, (br, bn), sl, ⟨⟨np, tk, ct, ep, cut⟩, a_1, c⟩, va, vc, vs, sa, sc, seen, ea, ec, evs, ti⟩ = true ∧ kindA a ⟨kd, fr, tt, (br, bn), sl, ⟨⟨np, tk, ct, ep, cut⟩, a_1, c⟩, va, vc, vs, sa, sc, seen, ea, ec, evs, ti⟩ ≠ 5) → RplD B w x a ro rec (.returned (.int .i64 10)) W8) := fun hn => HEND.out W8 a 10 (RaTo.same HIN.out HS8.out.out) (.inr ⟨rfl, rfl, hn⟩)
      cases ok
      · have HFI := hid (HNOT.out (fun hh => by have h1 := HOK.out.is; rw [hh.1] at h1; cases h1))
        clear HNOT HEND
        go_wp2
        go_ret
        rw [HW8.out] at HFI
        first | exact HFI.out | (have h9 := HFI.out; simpa using h9)
      · have hkk := (HOK.out.yes rfl).1
        by_cases h5 : kk = 5
        · have HFI := hid (HNOT.out (fun hh => hh.2 (by rw [← hkk]; exact h5)))
          subst h5
          clear HNOT HEND hkk
          go_wp2
          go_ret
          rw [HW8.out] at HFI
          first | exact HFI.out | (have h9 := HFI.out; simpa using h9)
        · have h5b : (kk == 5) = false := beq_eq_false_iff_ne.2 h5
          have HNK : Hid (kindA a ⟨kd, fr, tt, (br, bn), sl, ⟨⟨np, tk, ct, ep, cut⟩, a_1, c⟩, va, vc, vs, sa, sc, seen, ea, ec, evs, ti⟩ ≠ 5) := by rw [← hkk]; exact hid h5
          have HON := hid ((HIN.out.below HS8.out.out).onX (Nat.le_trans HBB2.out HS8.out.size) ⟨kd, fr, tt, (br, bn), sl, ⟨⟨np, tk, ct, ep, cut⟩, a_1, c⟩, va, vc, vs, sa, sc, seen, ea, ec, evs, ti⟩ (HMN.out.ok.below HS8.out.out) (HSM.out.below HS8.out.out))
          simp only [MsM.val] at HON
          rw [HXN.out, HVN.out, HSN.out, HEN.out] at HON
          obtain ⟨_, m0, m1, m2, m3, m4, m5, m6, m7, m8, m9, m10, m11, m12, m13, m14⟩ := HSA.out _ HS8.out
          rw [HW8.out] at HON m0 m1 m2 m3 m4 m5 m6 m7 m8 m9 m10 m11 m12 m13 m14
          clear HNOT hkk h5
          go_wp2_with fail
          refine HON.out.mono ?_
          rintro e w9 ⟨kk2, nd2, fr2, r2, n2, sl2, np2, vo2, N2, vc2, R2, ok2, b2, rfl, hk2, hto⟩
          rw [← HW8.out] at hto
          have htk := HOK.out.is
          have HFI : Hid (RplD B w x a ro rec (.returned (.int .i64 0)) w9) := by
            have hb2 : b2 = afterA a ⟨kd, fr, tt, (br, bn), sl, ⟨⟨np, tk, ct, ep, cut⟩, a_1, c⟩, va, vc, vs, sa, sc, seen, ea, ec, evs, ti⟩ := (hk2.out.yes (hk2.out.is.symm.trans htk)).2
            obtain ⟨xs2, ro2, rc2, h1, h2, h3⟩ := hto
            refine HEND.out w9 b2 0 ⟨xs2, ro2, rc2, h1, (Turns.of_below (F := FootR x ro) HS8.out.out (Nat.le_refl _)).trans h2 (fun i hi => .inl hi), fun q hq => (h3 q hq).imp id (fun h4 => Nat.le_trans HS8.out.size h4)⟩ (.inl ⟨rfl, htk, HNK.out, hb2⟩)
          clear hto hk2 m0 m1 m2 m3 m4 m5 m6 m7 m8 m9 m10 m11 m12 m13 m14 HEND
          go_wp2
          go_ret
          exact HFI.out
  · have HFI : Hid (RplD B w x a ro rec (.returned (.int .i64 10)) U) := ⟨a, 10, rfl, RaTo.same H0.out HBU.out, .inr ⟨rfl, rfl, fun ⟨y, hsz, hy, _, _⟩ => hno ⟨by rw [← HRN.out]; exact hsz, _, hy⟩⟩⟩
    clear hno
    go_wp2
    go_ret
    rw [← HU.out]
    exact HFI.out
end Go.Proofs.YtfmnbehopdmahaaGreat
