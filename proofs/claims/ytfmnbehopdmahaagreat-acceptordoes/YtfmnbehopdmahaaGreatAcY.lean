/-
  pannierref16.On of any message.
-/
import Derived.Test.YtfmnbehopdmahaaGreatAvV
import Derived.Test.YtfmnbehopdmahaaGreatAvW
import Derived.Test.YtfmnbehopdmahaaGreatAvX
import Derived.Test.YtfmnbehopdmahaaGreatAvY
import Derived.Test.YtfmnbehopdmahaaGreatAvP
import Derived.Test.YtfmnbehopdmahaaGreatAvQ
import Derived.Test.YtfmnbehopdmahaaGreatAvR
import Derived.Test.YtfmnbehopdmahaaGreatVoOpen
import Derived.Test.YtfmnbehopdmahaaGreatAvU
import Derived.Test.YtfmnbehopdmahaaGreatAcH
import Derived.Test.YtfmnbehopdmahaaGreatScLa
import Derived.Deep.RegionHeld3
import Derived.BigRegion
namespace Go.Proofs.YtfmnbehopdmahaaGreat
open Go.RowKit Go.Maps

theorem RaIn.on {w : World} {B x : Nat} {a : Ac} {xs : List VoM} {ro : Option Addr} {rc : Nat} (h : RaIn B w x a xs ro rc) (hB : B ≤ w.heap.size) (X : MsM) (hx : MsOk w X) (hs : MsB B X) : Calls Tryz.prog 10 #[.pointer (some ⟨x, 0, none⟩), X.val] w (OnD B w x a ro X) := by
  by_cases hr : RightMs X = true ∧ (encMs X).length ≤ 65536
  · by_cases ht : takesA a X = true
    · have hk : X.kind = 1 ∨ X.kind = 3 := by
        unfold takesA at ht
        simp only [Bool.and_eq_true, decide_eq_true_eq] at ht
        exact ht.2.1
      have hc := cmpB_or X.bal a.pr
      rcases hk with hk | hk
      · rcases hc with hc | hc | hc
        · exact h.on_r1 hB X hx ht hk hc
        · exact h.on_p0 hB X hx ht hk hc
        · exact h.on_p1 hB X hx ht hk hc
      · by_cases hf : findV xs X.slot 0 < 0
        · have hf' : findV xs X.slot 0 = -1 := by
            rcases findV_or xs X.slot 0 with h1 | ⟨j, _, h1, _⟩
            · exact h1
            · omega
          by_cases hn : xs.length < 4096
          · have hv : chgV xs ⟨X.slot, X.bal, X.en⟩ = true := by
              unfold chgV
              rw [if_neg (by show ¬ 0 ≤ findV xs X.slot 0; omega)]
            rcases hc with hc | hc | hc
            · exact h.on_r3b hB X hx ht hk hc hf' hn
            · exact h.on_a1 hB X hx hs ht hk hc hf' hn hv
            · exact h.on_a2 hB X hx hs ht hk hc hf' hn hv
          · have hn' : 4096 ≤ xs.length := by omega
            rcases hc with hc | hc | hc
            · exact h.on_r3c hB X hx ht hk hc hf' hn'
            · exact h.on_r3d hB X hx ht hk hc hf' hn'
            · exact h.on_r3e hB X hx ht hk hc hf' hn'
        · rcases hc with hc | hc | hc
          · exact h.on_r3a hB X hx ht hk hc hf
          · cases hv : chgV xs ⟨X.slot, X.bal, X.en⟩
            · exact h.on_a5 hB X hx hs ht hk hc hf hv
            · exact h.on_a4 hB X hx hs ht hk hc hf hv
          · refine h.on_a3 hB X hx hs ht hk hc hf ?_
            rw [h.tw.chg h.gok ⟨X.slot, X.bal, X.en⟩]
            have h1 := chg_or h.gok (x := X) (by rw [cmpB_neg, hc]; decide)
            rw [decide_eq_true (show a.pr ≠ X.bal from fun e => by rw [e, cmpB_same] at hc; exact absurd hc (by decide)), Bool.true_or] at h1
            exact h1.symm
    · exact h.on_other hB X hx hr ht
  · exact h.on_err hB X hx hr
end Go.Proofs.YtfmnbehopdmahaaGreat
/-
  The program's acceptor and the document's, side by side.
-/
namespace Go.Proofs.YtfmnbehopdmahaaGreat
open Go.RowKit Go.Maps

theorem ra_rowblk {w : World} {B x : Nat} {nd : Int} {pr : Int × Int} {xs : List VoM} {eo : Option Addr} {cap : Nat} (h : RaAt w B x nd pr xs eo cap) : ∀ g off, eo = some ⟨g, off, none⟩ → B ≤ g ∧ ∃ cs, Blk w g 73 cs := by
  intro g off e
  subst e
  rcases h.row.2 with ⟨h0, _⟩ | ⟨g', cap', cur, he, hg, hgg, _⟩
  · cases h0
  · cases he
    exact ⟨hg, cur.toList, hgg⟩
section
variable {B : Nat} {w w' : World} {p m x : Nat} {a a' : Ac} {xs : List VoM} {ro : Option Addr} {rc : Nat}
theorem AcIn.apart (h : AcIn B w p m a) (k : RaIn B w x a' xs ro rc) : (∀ i, FootA p m i → ¬ FootR x ro i) ∧ NoNum w (FootR x ro) := by
  obtain ⟨S, D, h1, _⟩ := h.at'.map
  refine ⟨fun i hi hf => ?_, fun i hf cs hc => ?_⟩
  · rcases hf with hf | ⟨off, hf⟩
    · subst hf
      rcases hi with hi | hi
      · exact blk_neH h.at'.blk k.ra.blk (by decide) hi.symm
      · exact k.ra.blk.not_map h1.map hi
    · obtain ⟨_, cs, hc⟩ := ra_rowblk k.ra i off hf
      rcases hi with hi | hi
      · exact blk_neH h.at'.blk hc (by decide) hi.symm
      · exact hc.not_map h1.map hi
  · rcases hf with hf | ⟨off, hf⟩
    · subst hf
      exact blk_neH k.ra.blk hc (by decide) rfl
    · obtain ⟨_, cs', hc'⟩ := ra_rowblk k.ra i off hf
      exact blk_neH hc' hc (by decide) rfl
theorem AcIn.byRa (h : AcIn B w p m a) (k : RaIn B w x a' xs ro rc) (ht : Turns (FootR x ro) w w') : AcIn B w' p m a := h.other ht (h.apart k).1 (h.apart k).2
theorem RaIn.byAc (k : RaIn B w x a' xs ro rc) (h : AcIn B w p m a) (ht : Turns (FootA p m) w w') : RaIn B w' x a' xs ro rc :=
  k.turned ht (fun i hi => h.foot i hi) (fun hf => (h.apart k).1 x hf (.inl rfl)) (fun g off e hf => (h.apart k).1 g hf (.inr ⟨off, e⟩))
theorem AcIn.fork2 (h : AcIn B w p m a) (hB : B ≤ w.heap.size) : Calls Tryz.prog 12 #[.pointer (some ⟨p, 0, none⟩)] w fun e w' => ∃ p' m', e = .returned (.pointer (some ⟨p', 0, none⟩)) ∧ AcIn B w' p m a ∧ AcIn B w' p' m' a ∧ (∀ i, FootA p' m' i → ¬ FootA p m i) ∧ Below w.heap.size w w' := by
  refine h.at'.fork.mono ?_
  rintro e w' ⟨p', m', rfl, h1, h2, h3, h4⟩
  refine ⟨p', m', rfl, h.below h2, ⟨h1, Nat.le_trans hB h3, Nat.le_trans hB h4⟩, fun i hi hf => ?_, h2⟩
  have h5 := h.at'.lt i hf
  rcases hi with hi | hi <;> omega
theorem AcIn.drop2 (h : AcIn B w p m a) (s : Int) : Calls Tryz.prog 13 #[.pointer (some ⟨p, 0, none⟩), .int .i64 s] w fun e w' => e = .returned (.tuple #[]) ∧ AcIn B w' p m (dropA a s) ∧ Turns (FootA p m) w w' := by
  refine (h.at'.drop s).mono ?_
  rintro e w' ⟨rfl, h1, h2⟩
  exact ⟨rfl, ⟨h1, h.bp, h.bm⟩, h2.mono (fun i hi => .inr hi)⟩
end
/-- A slice of votes that an answer tells. -/
def VL (w w' : World) (vo : Option Addr) (N : Nat) (L : List (Int × Vt)) : Prop := ∃ ys, ys.length = N ∧ N ≤ 4096 ∧ ys.map VoM.sv = L ∧ HeldVI w' vo ys ∧ ∀ b off, vo = some ⟨b, off, none⟩ → w.heap.size ≤ b
def VR (w' : World) (vo : Option Addr) (N : Nat) (L : List (Int × Vt)) : Prop := ∃ ys, ys.length = N ∧ N ≤ 4096 ∧ ys.map VoM.sv = L ∧ HeldVo w' vo ys
theorem VL.vr {w w' : World} {vo : Option Addr} {N : Nat} {L : List (Int × Vt)} (h : VL w w' vo N L) : VR w' vo N L := by
  obtain ⟨ys, h1, h2, h3, h4, _⟩ := h
  exact ⟨ys, h1, h2, h3, h4.held⟩
theorem VR.below {w w' : World} {vo : Option Addr} {N : Nat} {L : List (Int × Vt)} (h : VR w vo N L) (hb : Below w.heap.size w w') : VR w' vo N L := by
  obtain ⟨ys, h1, h2, h3, h4⟩ := h
  exact ⟨ys, h1, h2, h3, h4.below hb⟩
theorem VL.below {w w' w'' : World} {vo : Option Addr} {N : Nat} {L : List (Int × Vt)} (h : VL w w' vo N L) (hb : Below w'.heap.size w' w'') : VL w w'' vo N L := by
  obtain ⟨ys, h1, h2, h3, h4, h5⟩ := h
  exact ⟨ys, h1, h2, h3, h4.below hb, h5⟩
/-- The document's call behind it leaves it. -/
theorem VL.byRa {B : Nat} {w0 w w' : World} {x : Nat} {a' : Ac} {xs : List VoM} {ro : Option Addr} {rc : Nat} {vo : Option Addr} {N : Nat} {L : List (Int × Vt)} (h : VL w0 w vo N L) {p m : Nat} {a : Ac} (hA : AcIn B w p m a) (k : RaIn B w x a' xs ro rc) (hlt : ∀ i, FootR x ro i → i < w0.heap.size) (ht : Turns (FootR x ro) w w') : VR w' vo N L := by
  obtain ⟨ys, h1, h2, h3, h4, h5⟩ := h
  exact ⟨ys, h1, h2, h3, (h4.turned ht (hA.apart k).2 (fun b off e hf => by have := h5 b off e; have := hlt b hf; omega)).held⟩
theorem RaIn.lt {B : Nat} {w : World} {x : Nat} {a : Ac} {xs : List VoM} {ro : Option Addr} {rc : Nat} (k : RaIn B w x a xs ro rc) : ∀ i, FootR x ro i → i < w.heap.size := by
  intro i hi
  rcases hi with hi | ⟨off, hi⟩
  · rw [hi]; exact k.ra.blk.lt
  · obtain ⟨_, cs, hc⟩ := ra_rowblk k.ra i off hi
    exact hc.lt
/-- On of both: the same answer. -/
theorem on_both (a : Ac) (X : MsM) : ∃ kk nd fr r n sl np R ok b L,
    (∀ (w : World) (B p m : Nat), AcIn B w p m a → B ≤ w.heap.size → MsOk w X → MsB B X → Calls Tryz.prog 9 #[.pointer (some ⟨p, 0, none⟩), X.val] w fun e w' => ∃ vo N vc, e = .returned (.tuple #[.agg #[.int .i64 kk, .int .i64 nd, .int .i64 fr, .int .i64 r, .int .i64 n, .int .i64 sl, .bool np, .string ⟨#[]⟩, .string ⟨#[]⟩, .int .i64 0, .slice none 0 0, .slice vo N vc, .slice none 0 0, .slice none 0 0, .int .i64 0], .string R, .bool ok]) ∧ VL w w' vo N L ∧ AcIn B w' p m b ∧ Turns (FootA p m) w w') ∧
    (∀ (w : World) (B x : Nat) (xs : List VoM) (ro : Option Addr) (rc : Nat), RaIn B w x a xs ro rc → B ≤ w.heap.size → MsOk w X → MsB B X → Calls Tryz.prog 10 #[.pointer (some ⟨x, 0, none⟩), X.val] w fun e w' => ∃ vo N vc, e = .returned (.tuple #[.agg #[.int .i64 kk, .int .i64 nd, .int .i64 fr, .int .i64 r, .int .i64 n, .int .i64 sl, .bool np, .string ⟨#[]⟩, .string ⟨#[]⟩, .int .i64 0, .slice none 0 0, .slice vo N vc, .slice none 0 0, .slice none 0 0, .int .i64 0], .string R, .bool ok]) ∧ VR w' vo N L ∧ RaTo B w w' x b ro) ∧ wouldA a X = R ∧ takesA a X = ok := by
  by_cases ht : takesA a X = true
  · refine ⟨kindA a X, (afterA a X).node, X.frm, (afterA a X).pr.1, (afterA a X).pr.2, X.slot, true, (if changesA a X = true then recOf X else ⟨#[]⟩), true, afterA a X, (if kindA a X = 2 then fromTo (afterA a X) X.slot (afterA a X).ks.length else []), ?_, ?_, ?_, ht⟩
    · intro w B p m h hB hx hs
      refine (h.at'.on X hx (fun b off e hne hp => by have h1 := hs b off e hne; have h2 := h.bp; omega)).mono ?_
      intro e w' hP
      unfold OnP at hP
      rw [if_pos ht] at hP
      obtain ⟨vo, vc, ys, he, hm, ⟨hv, hlo⟩, hl, hat, htu⟩ := hP
      exact ⟨vo, ys.length, vc, he, ⟨ys, rfl, hl, hm, hv, hlo⟩, ⟨hat, h.bp, h.bm⟩, htu⟩
    · intro w B x xs ro rc h hB hx hs
      refine (h.on hB X hx hs).mono ?_
      intro e w' hP
      unfold OnD at hP
      rw [if_pos ht] at hP
      obtain ⟨vo, vc, ys, he, hm, hv, hl, _, hto⟩ := hP
      exact ⟨vo, ys.length, vc, he, ⟨ys, rfl, hl, hm, hv⟩, hto⟩
    · unfold wouldA
      rw [if_pos ht]
  · have hf : takesA a X = false := by simpa using ht
    refine ⟨0, 0, 0, 0, 0, 0, false, ⟨#[]⟩, false, a, [], ?_, ?_, ?_, hf⟩
    · intro w B p m h hB hx hs
      refine (h.at'.on X hx (fun b off e hne hp => by have h1 := hs b off e hne; have h2 := h.bp; omega)).mono ?_
      intro e w' hP
      unfold OnP at hP
      rw [if_neg ht] at hP
      obtain ⟨he, hat, hb⟩ := hP
      exact ⟨none, 0, 0, he, ⟨[], rfl, Nat.zero_le _, rfl, ⟨⟨fun y hy => (by cases hy), .inl rfl⟩, fun y hy => (by cases hy)⟩, fun b off e => (by cases e)⟩, ⟨hat, h.bp, h.bm⟩, Turns.of_below hb (Nat.le_refl _)⟩
    · intro w B x xs ro rc h hB hx hs
      refine (h.on hB X hx hs).mono ?_
      intro e w' hP
      unfold OnD at hP
      rw [if_neg ht] at hP
      exact ⟨none, 0, 0, hP.1, ⟨[], rfl, Nat.zero_le _, rfl, ⟨fun y hy => (by cases hy), .inl rfl⟩⟩, hP.2⟩
    · unfold wouldA
      rw [if_neg ht]
end Go.Proofs.YtfmnbehopdmahaaGreat
/-
  SameVoted of lists of votes that are the same.
-/
namespace Go.Proofs.YtfmnbehopdmahaaGreat
open Go.RowKit Go.Shelf Go.Maps

theorem sv_parts {x y : VoM} (h : x.sv = y.sv) : ∃ sl r n e ao1 c1 ao2 c2, x = ⟨sl, (r, n), ⟨e, ao1, c1⟩⟩ ∧ y = ⟨sl, (r, n), ⟨e, ao2, c2⟩⟩ := by
  obtain ⟨s1, ⟨r1, n1⟩, e1, ao1, c1⟩ := x
  obtain ⟨s2, ⟨r2, n2⟩, e2, ao2, c2⟩ := y
  simp only [VoM.sv, VoM.vt, Prod.mk.injEq] at h
  obtain ⟨rfl, ⟨rfl, rfl⟩, rfl⟩ := h
  exact ⟨_, _, _, _, _, _, _, _, rfl, rfl⟩
set_option maxRecDepth 1000000 in
set_option maxHeartbeats 4000000 in
theorem sameVos_B (w : World) (ao bo : Option Addr) (ca cb : Nat) (xs ys : List VoM) (N : Nat) (hn : xs.length = N) (hx : HeldVo w ao xs) (hy : HeldVo w bo ys) (he : xs.map VoM.sv = ys.map VoM.sv) (hl : N ≤ 4096) :
    Calls Tryz.prog 26 #[.slice ao N ca, .slice bo N cb] w fun e w' => e = .returned (.bool true) ∧ Below w.heap.size w w' := by
  have HN := hid hn
  have HM : Hid (ys.length = N) := by have := congrArg List.length he; simp at this; exact hid (by omega)
  have HX := hid hx
  have HY := hid hy
  have HE := hid he
  clear hn hx hy he
  go_enter Tryz.func26, Tryz.ntmps26
  go_wp2
  go_loopw [5] (fun x wr => ∃ i : Nat, i ≤ N ∧ x = .int .i64 i ∧ Hid (Below w.heap.size w wr)) (fun x _ => N - (intOf x).toNat)
  case atStart => exact ⟨0, Nat.zero_le _, rfl, Below.refl _ _⟩
  case round =>
    obtain ⟨i, hi, rfl, HB⟩ := hrel
    by_cases hlt : i < N
    · have hlt' : (i : Int) < (N : Int) := by omega
      have hix : Hid (i < xs.length) := (by rw [HN.out]; exact hlt : i < xs.length)
      have hiy : Hid (i < ys.length) := (by rw [HM.out]; exact hlt : i < ys.length)
      have HIM : Hid (i + 1 ≤ N) := (by omega : i + 1 ≤ N)
      obtain ⟨g1, f1, hao, hg1, e1⟩ := (HX.out.below HB.out).at hix.out
      obtain ⟨g2, f2, hbo, hg2, e2⟩ := (HY.out.below HB.out).at hiy.out
      subst hao hbo
      have HL1 := hid hg1
      have HL2 := hid hg2
      clear hg1 hg2
      have HOX := hid ((HX.out.1 _ (List.getElem_mem hix.out)).below HB.out)
      have HOY := hid ((HY.out.1 _ (List.getElem_mem hiy.out)).below HB.out)
      have hsv : (xs[i]'hix.out).sv = (ys[i]'hiy.out).sv := by
        have h1 : (xs.map VoM.sv)[i]? = (ys.map VoM.sv)[i]? := by rw [HE.out]
        rw [List.getElem?_map, List.getElem?_map, List.getElem?_eq_getElem hix.out, List.getElem?_eq_getElem hiy.out] at h1
        exact Option.some.inj h1
      obtain ⟨sl, r, n, ⟨np, tk, ct, ep, dp⟩, ao1, cap1, ao2, cap2, hX, hY⟩ := sv_parts hsv
      rw [hX] at e1 HOX
      rw [hY] at e2 HOY
      simp only [VoM.cells] at e1 e2
      obtain ⟨XN, HXN⟩ : ∃ m, Hid (dp.length = m) := ⟨_, hid rfl⟩
      rw [HXN.out] at e1 e2
      have HSE : Hid (∀ V, ScL wr V → Calls Tryz.prog 25 #[.agg #[.bool np, .string tk, .string ct, .int .i64 ep, .slice ao1 XN cap1], .agg #[.bool np, .string tk, .string ct, .int .i64 ep, .slice ao2 XN cap2]] V fun e w' => e = .returned (.bool true) ∧ ScL wr w') := fun V hV => by
        have h1 := sameEntry_B V ⟨np, tk, ct, ep, dp⟩ ao1 ao2 cap1 cap2 (HOX.out.en.cut.below hV.out) (HOY.out.en.cut.below hV.out)
        simp only [EnM.val] at h1
        rw [HXN.out] at h1
        exact h1.mono fun e w' ⟨h2, h3⟩ => ⟨h2, hV.go h3⟩
      have HSA : Hid (∀ V, ScL wr V → (ScL wr V ∧ V.cell? ⟨g1, f1 + i * 8, none⟩ = some (.int .i64 sl) ∧ V.cell? ⟨g1, f1 + i * 8 + 1, none⟩ = some (.int .i64 r) ∧ V.cell? ⟨g1, f1 + i * 8 + 2, none⟩ = some (.int .i64 n) ∧ V.cell? ⟨g1, f1 + i * 8 + 3, none⟩ = some (.bool np) ∧ V.cell? ⟨g1, f1 + i * 8 + 4, none⟩ = some (.string tk) ∧ V.cell? ⟨g1, f1 + i * 8 + 5, none⟩ = some (.string ct) ∧ V.cell? ⟨g1, f1 + i * 8 + 6, none⟩ = some (.int .i64 ep) ∧ V.cell? ⟨g1, f1 + i * 8 + 7, none⟩ = some (.slice ao1 XN cap1) ∧ V.cell? ⟨g2, f2 + i * 8, none⟩ = some (.int .i64 sl) ∧ V.cell? ⟨g2, f2 + i * 8 + 1, none⟩ = some (.int .i64 r) ∧ V.cell? ⟨g2, f2 + i * 8 + 2, none⟩ = some (.int .i64 n) ∧ V.cell? ⟨g2, f2 + i * 8 + 3, none⟩ = some (.bool np) ∧ V.cell? ⟨g2, f2 + i * 8 + 4, none⟩ = some (.string tk) ∧ V.cell? ⟨g2, f2 + i * 8 + 5, none⟩ = some (.string ct) ∧ V.cell? ⟨g2, f2 + i * 8 + 6, none⟩ = some (.int .i64 ep) ∧ V.cell? ⟨g2, f2 + i * 8 + 7, none⟩ = some (.slice ao2 XN cap2))) := fun V hV => ⟨hV, (hV.out.cell (p := ⟨g1, _, none⟩) HL1.out).trans (e1 0 _ rfl), (hV.out.cell (p := ⟨g1, _, none⟩) HL1.out).trans (e1 1 _ rfl), (hV.out.cell (p := ⟨g1, _, none⟩) HL1.out).trans (e1 2 _ rfl), (hV.out.cell (p := ⟨g1, _, none⟩) HL1.out).trans (e1 3 _ rfl), (hV.out.cell (p := ⟨g1, _, none⟩) HL1.out).trans (e1 4 _ rfl), (hV.out.cell (p := ⟨g1, _, none⟩) HL1.out).trans (e1 5 _ rfl), (hV.out.cell (p := ⟨g1, _, none⟩) HL1.out).trans (e1 6 _ rfl), (hV.out.cell (p := ⟨g1, _, none⟩) HL1.out).trans (e1 7 _ rfl), (hV.out.cell (p := ⟨g2, _, none⟩) HL2.out).trans (e2 0 _ rfl), (hV.out.cell (p := ⟨g2, _, none⟩) HL2.out).trans (e2 1 _ rfl), (hV.out.cell (p := ⟨g2, _, none⟩) HL2.out).trans (e2 2 _ rfl), (hV.out.cell (p := ⟨g2, _, none⟩) HL2.out).trans (e2 3 _ rfl), (hV.out.cell (p := ⟨g2, _, none⟩) HL2.out).trans (e2 4 _ rfl), (hV.out.cell (p := ⟨g2, _, none⟩) HL2.out).trans (e2 5 _ rfl), (hV.out.cell (p := ⟨g2, _, none⟩) HL2.out).trans (e2 6 _ rfl), (hV.out.cell (p := ⟨g2, _, none⟩) HL2.out).trans (e2 7 _ rfl)⟩
      clear e1 e2 hX hY hsv HOX HOY
      have hsc0 := ScL.start wr
      go_wp2
      go_region_held3 (fun V => ScL wr V ∧ V.cell? ⟨g1, f1 + i * 8, none⟩ = some (.int .i64 sl) ∧ V.cell? ⟨g1, f1 + i * 8 + 1, none⟩ = some (.int .i64 r) ∧ V.cell? ⟨g1, f1 + i * 8 + 2, none⟩ = some (.int .i64 n) ∧ V.cell? ⟨g1, f1 + i * 8 + 3, none⟩ = some (.bool np) ∧ V.cell? ⟨g1, f1 + i * 8 + 4, none⟩ = some (.string tk) ∧ V.cell? ⟨g1, f1 + i * 8 + 5, none⟩ = some (.string ct) ∧ V.cell? ⟨g1, f1 + i * 8 + 6, none⟩ = some (.int .i64 ep) ∧ V.cell? ⟨g1, f1 + i * 8 + 7, none⟩ = some (.slice ao1 XN cap1) ∧ V.cell? ⟨g2, f2 + i * 8, none⟩ = some (.int .i64 sl) ∧ V.cell? ⟨g2, f2 + i * 8 + 1, none⟩ = some (.int .i64 r) ∧ V.cell? ⟨g2, f2 + i * 8 + 2, none⟩ = some (.int .i64 n) ∧ V.cell? ⟨g2, f2 + i * 8 + 3, none⟩ = some (.bool np) ∧ V.cell? ⟨g2, f2 + i * 8 + 4, none⟩ = some (.string tk) ∧ V.cell? ⟨g2, f2 + i * 8 + 5, none⟩ = some (.string ct) ∧ V.cell? ⟨g2, f2 + i * 8 + 6, none⟩ = some (.int .i64 ep) ∧ V.cell? ⟨g2, f2 + i * 8 + 7, none⟩ = some (.slice ao2 XN cap2))
        (first | (refine HSA.out _ ?_; (repeat (first | with_reducible assumption | with_reducible exact ScL.start _ | with_reducible apply ScL.dr)); done))
        ((go_at_call 25; with_reducible refine (HSE.out _ (by (repeat (first | assumption | exact ScL.start _ | apply ScL.dr)))).mono ?_; rintro e w5 ⟨rfl, hs5⟩; have HS5 := hid hs5))
      all_goals
        go_wp2
        go_roundw
        case rel => exact ⟨i + 1, HIM.out, by go_num, bt' HB.out HS5.out.out⟩
        case measure => simp [intOf]; have := HIM.out; omega
    · have hlt' : ¬ (i : Int) < (N : Int) := by omega
      go_wp2
      go_ret
      exact ⟨rfl, HB.out⟩
end Go.Proofs.YtfmnbehopdmahaaGreat
/-
  pannierlaw16.same of the program's acceptor and the document's.
-/
namespace Go.Proofs.YtfmnbehopdmahaaGreat
open Go.RowKit Go.Maps

theorem AcIn.promD {B : Nat} {w : World} {p m : Nat} {a : Ac} {r n : Int} (h : AcIn B w p m a) (hp : a.pr = (r, n)) : Calls Tryz.prog 33 #[.pointer (some ⟨p, 0, none⟩)] w fun e w' => e = .returned (.agg #[.int .i64 r, .int .i64 n]) ∧ Below w.heap.size w w' := by
  have h1 := h.at'.promised
  unfold PromP at h1
  rw [hp] at h1
  exact h1
theorem AcIn.votsD {B : Nat} {w : World} {p m : Nat} {a : Ac} {N : Nat} (h : AcIn B w p m a) (hN : a.ks.length = N) : Calls Tryz.prog 18 #[.pointer (some ⟨p, 0, none⟩)] w fun e w' => ∃ vo vc, e = .returned (.slice vo N vc) ∧ Hid (VR w' vo N (fromTo a 0 a.ks.length)) ∧ Below w.heap.size w w' := by
  refine h.at'.votes.mono ?_
  rintro e w' ⟨vo, vc, ys, rfl, h1, h2, h3, _, h4⟩
  have hl : ys.length = N := by
    rw [fromTo_all h.at'.ok] at h1
    have := congrArg List.length h1
    simpa [hN] using this
  rw [hl]
  exact ⟨vo, vc, rfl, ⟨ys, hl, by rw [← hl]; exact h3, h1, h2.held⟩, h4⟩
theorem lt_of_cell {w : World} {b o : Nat} {v : Value} (h : w.cell? ⟨b, o, none⟩ = some v) : b < w.heap.size := by
  obtain ⟨b', off', e, hlt⟩ := plain_addr (w := w) (a := ⟨b, o, none⟩) (v := v) (by rw [Addr.add_lit]; exact h)
  cases e
  exact hlt
/-- What the document's acceptor has, told. -/
theorem RaIn.vr {B : Nat} {w : World} {x : Nat} {a : Ac} {xs : List VoM} {ro : Option Addr} {rc : Nat} (k : RaIn B w x a xs ro rc) : VR w ro xs.length (fromTo a 0 a.ks.length) := by
  refine ⟨xs, rfl, k.ra.few, ?_, k.ra.held⟩
  rw [← k.tw.above 0]
  unfold aboveV
  rw [List.take_length, List.filter_eq_self.2]
  intro y hy
  have h1 : y.slot ∈ a.ks := by rw [← k.tw.ns]; exact List.mem_map.2 ⟨y, hy, rfl⟩
  exact decide_eq_true (k.gok.slot _ h1).1
theorem same_vr {w : World} {ao bo : Option Addr} {N ca cb : Nat} {L : List (Int × Vt)} (h1 : VR w ao N L) (h2 : VR w bo N L) : Calls Tryz.prog 26 #[.slice ao N ca, .slice bo N cb] w fun e w' => e = .returned (.bool true) ∧ Below w.heap.size w w' := by
  obtain ⟨ys, e1, k1, l1, n1⟩ := h1
  obtain ⟨zs, e2, k2, l2, n2⟩ := h2
  exact sameVos_B w ao bo ca cb ys zs N e1 n1 n2 (l1.trans l2.symm) k1
theorem same_vr2 {w w6 : World} {ao bo : Option Addr} {N ca cb : Nat} {L : List (Int × Vt)} (h1 : VR w6 ao N L) (h2 : ∀ V, ScL w V → VR V bo N L) (hs : ScL w w6) : ∀ V, ScL w6 V → Calls Tryz.prog 26 #[.slice ao N ca, .slice bo N cb] V fun e w' => e = .returned (.bool true) ∧ ScL w w' := fun V hV =>
  (same_vr (h1.below hV.out) (h2 V (hs.go hV.out))).mono (fun _ _ (hh : _ ∧ _) => And.intro hh.1 ((hs.go hV.out).go hh.2))
set_option maxRecDepth 1000000 in
set_option maxHeartbeats 4000000 in
theorem AcIn.same {B : Nat} {w : World} {p m x : Nat} {a : Ac} {xs : List VoM} {ro : Option Addr} {rc : Nat} (h : AcIn B w p m a) (k : RaIn B w x a xs ro rc) : Calls Tryz.prog 15 #[.pointer (some ⟨p, 0, none⟩), .pointer (some ⟨x, 0, none⟩)] w fun e w' => e = .returned (.bool true) ∧ Below w.heap.size w w' := by
  obtain ⟨r, n, hpr⟩ : ∃ r n, a.pr = (r, n) := ⟨_, _, rfl⟩
  obtain ⟨N, HN⟩ : ∃ N, Hid (a.ks.length = N) := ⟨_, hid rfl⟩
  have HXN : Hid (xs.length = N) := by rw [← HN.out]; exact k.tw.len
  have HPR : Hid (∀ V, ScL w V → Calls Tryz.prog 33 #[.pointer (some ⟨p, 0, none⟩)] V fun e w' => e = .returned (.agg #[.int .i64 r, .int .i64 n]) ∧ ScL w w') := fun V hV => ((h.below hV.out).promD hpr).mono (fun e w' (hh : _ ∧ _) => And.intro hh.1 (hV.go hh.2))
  have HVO : Hid (∀ V, ScL w V → Calls Tryz.prog 18 #[.pointer (some ⟨p, 0, none⟩)] V fun e w' => ∃ vo vc, e = .returned (.slice vo N vc) ∧ Hid (VR w' vo N (fromTo a 0 a.ks.length)) ∧ ScL w w') := fun V hV => by
    refine ((h.below hV.out).votsD HN.out).mono ?_
    rintro e w' ⟨vo, vc, rfl, h1, h2⟩
    exact ⟨vo, vc, rfl, h1, hV.go h2⟩
  have HVR : Hid (∀ V, ScL w V → VR V ro N (fromTo a 0 a.ks.length)) := fun V hV => by
    have h1 := k.vr.below hV.out
    rw [HXN.out] at h1
    exact h1
  have HSA : Hid (∀ V, ScL w V → (ScL w V ∧ V.cell? ⟨x, 1, none⟩ = some (.int .i64 r) ∧ V.cell? ⟨x, 2, none⟩ = some (.int .i64 n) ∧ V.cell? ⟨x, 3, none⟩ = some (.slice ro N rc))) := fun V hV => by
    have h1 := (k.ra.below hV.out).blk
    rw [hpr, HXN.out] at h1
    exact ⟨hV, h1.cell rfl, h1.cell rfl, h1.cell rfl⟩
  clear h k hpr
  go_enter Tryz.func15, Tryz.ntmps15
  go_wp2
  go_region_held3 (fun V => ScL w V ∧ V.cell? ⟨x, 1, none⟩ = some (.int .i64 r) ∧ V.cell? ⟨x, 2, none⟩ = some (.int .i64 n) ∧ V.cell? ⟨x, 3, none⟩ = some (.slice ro N rc))
    (first | (refine HSA.out _ ?_; (repeat (first | with_reducible assumption | with_reducible exact ScL.start _ | with_reducible apply ScL.dr)); done))
    (first
      | (go_at_call 33; with_reducible refine (HPR.out _ (by (repeat (first | assumption | exact ScL.start _ | apply ScL.dr)))).mono ?_; rintro e w5 ⟨rfl, hs5⟩)
      | (go_at_call 26; with_reducible refine (HSV6.out _ (by (repeat (first | assumption | exact ScL.start _ | apply ScL.dr)))).mono ?_; rintro e w7 ⟨rfl, hs7⟩)
      | (go_at_call 18; with_reducible refine (HVO.out _ (by (repeat (first | assumption | exact ScL.start _ | apply ScL.dr)))).mono ?_; rintro e w6 ⟨vo6, vc6, rfl, HV6, hs6⟩; have HSV6 := hid (same_vr2 (ca := vc6) (cb := rc) HV6.out HVR.out hs6)))
  all_goals
    rename_i hHeld
    have HB : Hid (Below w.heap.size w _) := hHeld.1.out
    go_wp2
    go_ret
    exact ⟨rfl, HB.out⟩
end Go.Proofs.YtfmnbehopdmahaaGreat
/-
  SameMsg of two empty messages.
-/
namespace Go.Proofs.YtfmnbehopdmahaaGreat
open Go.RowKit Go.Shelf Go.Maps

theorem hv_none0 (w : World) : HV w none 0 [] := ⟨⟨fun x h => (by cases h), .inl rfl⟩, Nat.le_refl _, Nat.zero_le _⟩
set_option maxRecDepth 1000000 in
theorem sameEvs_0 (w : World) : Calls Tryz.prog 28 #[.slice none 0 0, .slice none 0 0] w fun e w' => e = .returned (.bool true) ∧ Below w.heap.size w w' := by
  go_enter Tryz.func28, Tryz.ntmps28
  go_wp2
  go_loopw [5] (fun x wr => x = .int .i64 0 ∧ Hid (Below w.heap.size w wr)) (fun _ _ => 0)
  case atStart => exact ⟨rfl, Below.refl _ _⟩
  case round =>
    obtain ⟨rfl, HB⟩ := hrel
    go_wp2
    go_ret
    exact ⟨rfl, HB.out⟩
set_option maxRecDepth 1000000 in
set_option maxHeartbeats 4000000 in
theorem sameMs_0 (w : World) : Calls Tryz.prog 11 #[.agg #[.int .i64 0, .int .i64 0, .int .i64 0, .int .i64 0, .int .i64 0, .int .i64 0, .bool false, .string ⟨#[]⟩, .string ⟨#[]⟩, .int .i64 0, .slice none 0 0, .slice none 0 0, .slice none 0 0, .slice none 0 0, .int .i64 0], .agg #[.int .i64 0, .int .i64 0, .int .i64 0, .int .i64 0, .int .i64 0, .int .i64 0, .bool false, .string ⟨#[]⟩, .string ⟨#[]⟩, .int .i64 0, .slice none 0 0, .slice none 0 0, .slice none 0 0, .slice none 0 0, .int .i64 0]] w fun e w' => e = .returned (.bool true) ∧ Below w.heap.size w w' := by
  obtain ⟨W1, hW1⟩ : ∃ W, W = w.alloc (.cells #[.int .i64 0, .int .i64 0, .int .i64 0, .int .i64 0, .int .i64 0, .int .i64 0, .bool false, .string ⟨#[]⟩, .string ⟨#[]⟩, .int .i64 0, .slice none 0 0, .slice none 0 0, .slice none 0 0, .slice none 0 0, .int .i64 0] 43) := ⟨_, rfl⟩
  obtain ⟨W, hW⟩ : ∃ W, W = W1.alloc (.cells #[.int .i64 0, .int .i64 0, .int .i64 0, .int .i64 0, .int .i64 0, .int .i64 0, .bool false, .string ⟨#[]⟩, .string ⟨#[]⟩, .int .i64 0, .slice none 0 0, .slice none 0 0, .slice none 0 0, .slice none 0 0, .int .i64 0] 43) := ⟨_, rfl⟩
  have hs1 : W1.heap.size = w.heap.size + 1 := by rw [hW1]; simp
  have hb1 : Below w.heap.size w W1 := by rw [hW1]; exact (Below.refl _ _).alloc (Nat.le_refl _) _
  have HB : Hid (Below w.heap.size w W) := by rw [hW]; exact hb1.alloc hb1.size _
  obtain ⟨ba, hba⟩ : ∃ q, q = w.heap.size := ⟨_, rfl⟩
  obtain ⟨bb, hbb⟩ : ∃ q, q = w.heap.size + 1 := ⟨_, rfl⟩
  have HKA : Hid (Blk W ba 43 [.int .i64 0, .int .i64 0, .int .i64 0, .int .i64 0, .int .i64 0, .int .i64 0, .bool false, .string ⟨#[]⟩, .string ⟨#[]⟩, .int .i64 0, .slice none 0 0, .slice none 0 0, .slice none 0 0, .slice none 0 0, .int .i64 0]) := by rw [hba, hW, hW1]; exact (Blk.new w _ _).alloc _
  have HKB : Hid (Blk W bb 43 [.int .i64 0, .int .i64 0, .int .i64 0, .int .i64 0, .int .i64 0, .int .i64 0, .bool false, .string ⟨#[]⟩, .string ⟨#[]⟩, .int .i64 0, .slice none 0 0, .slice none 0 0, .slice none 0 0, .slice none 0 0, .int .i64 0]) := by rw [hbb, hW, ← hs1]; exact Blk.new W1 _ _
  have HW : Hid (W = (w.alloc (.cells #[.int .i64 0, .int .i64 0, .int .i64 0, .int .i64 0, .int .i64 0, .int .i64 0, .bool false, .string ⟨#[]⟩, .string ⟨#[]⟩, .int .i64 0, .slice none 0 0, .slice none 0 0, .slice none 0 0, .slice none 0 0, .int .i64 0] 43)).alloc (.cells #[.int .i64 0, .int .i64 0, .int .i64 0, .int .i64 0, .int .i64 0, .int .i64 0, .bool false, .string ⟨#[]⟩, .string ⟨#[]⟩, .int .i64 0, .slice none 0 0, .slice none 0 0, .slice none 0 0, .slice none 0 0, .int .i64 0] 43)) := by show _ = _; rw [hW, hW1]
  have HBA := hid hba
  have HBB := hid hbb
  have HSE := hid (sameEntry_B W ⟨false, ⟨#[]⟩, ⟨#[]⟩, 0, []⟩ none none 0 0 (hv_none0 _) (hv_none0 _))
  simp only [EnM.val, List.length_nil] at HSE
  have p0 := HKA.out.cell (i := 0) rfl
  have p1 := HKA.out.cell (i := 1) rfl
  have p2 := HKA.out.cell (i := 2) rfl
  have p3 := HKA.out.cell (i := 3) rfl
  have p4 := HKA.out.cell (i := 4) rfl
  have p5 := HKA.out.cell (i := 5) rfl
  have p6 := HKA.out.cell (i := 6) rfl
  have p7 := HKA.out.cell (i := 7) rfl
  have p8 := HKA.out.cell (i := 8) rfl
  have p9 := HKA.out.cell (i := 9) rfl
  have p10 := HKA.out.cell (i := 10) rfl
  have p11 := HKA.out.cell (i := 11) rfl
  have p12 := HKA.out.cell (i := 12) rfl
  have p13 := HKA.out.cell (i := 13) rfl
  have p14 := HKA.out.cell (i := 14) rfl
  have q0 := HKB.out.cell (i := 0) rfl
  have q1 := HKB.out.cell (i := 1) rfl
  have q2 := HKB.out.cell (i := 2) rfl
  have q3 := HKB.out.cell (i := 3) rfl
  have q4 := HKB.out.cell (i := 4) rfl
  have q5 := HKB.out.cell (i := 5) rfl
  have q6 := HKB.out.cell (i := 6) rfl
  have q7 := HKB.out.cell (i := 7) rfl
  have q8 := HKB.out.cell (i := 8) rfl
  have q9 := HKB.out.cell (i := 9) rfl
  have q10 := HKB.out.cell (i := 10) rfl
  have q11 := HKB.out.cell (i := 11) rfl
  have q12 := HKB.out.cell (i := 12) rfl
  have q13 := HKB.out.cell (i := 13) rfl
  have q14 := HKB.out.cell (i := 14) rfl
  clear hW hW1 hs1 hb1 hba hbb
  go_enter Tryz.func11, Tryz.ntmps11
  go_wp2_with fail
  rw [← HW.out, ← HBB.out, ← HBA.out]
  refine HSE.out.mono ?_
  rintro e w2 ⟨rfl, hb2⟩
  have HB2 := hid (bt' HB.out hb2)
  have HKA2 := hid (HKA.out.below hb2 HKA.out.lt)
  have HKB2 := hid (HKB.out.below hb2 HKB.out.lt)
  have HSV2 := hid (sameVos_B w2 none none 0 0 [] [] 0 rfl ⟨fun x h => (by cases h), .inl rfl⟩ ⟨fun x h => (by cases h), .inl rfl⟩ rfl (Nat.zero_le _))
  skip
  clear hb2 p0 p1 p2 p3 p4 p5 p6 p7 p8 p9 p10 p11 p12 p13 p14 q0 q1 q2 q3 q4 q5 q6 q7 q8 q9 q10 q11 q12 q13 q14
  have p0 := HKA2.out.cell (i := 0) rfl
  have p1 := HKA2.out.cell (i := 1) rfl
  have p2 := HKA2.out.cell (i := 2) rfl
  have p3 := HKA2.out.cell (i := 3) rfl
  have p4 := HKA2.out.cell (i := 4) rfl
  have p5 := HKA2.out.cell (i := 5) rfl
  have p6 := HKA2.out.cell (i := 6) rfl
  have p7 := HKA2.out.cell (i := 7) rfl
  have p8 := HKA2.out.cell (i := 8) rfl
  have p9 := HKA2.out.cell (i := 9) rfl
  have p10 := HKA2.out.cell (i := 10) rfl
  have p11 := HKA2.out.cell (i := 11) rfl
  have p12 := HKA2.out.cell (i := 12) rfl
  have p13 := HKA2.out.cell (i := 13) rfl
  have p14 := HKA2.out.cell (i := 14) rfl
  have q0 := HKB2.out.cell (i := 0) rfl
  have q1 := HKB2.out.cell (i := 1) rfl
  have q2 := HKB2.out.cell (i := 2) rfl
  have q3 := HKB2.out.cell (i := 3) rfl
  have q4 := HKB2.out.cell (i := 4) rfl
  have q5 := HKB2.out.cell (i := 5) rfl
  have q6 := HKB2.out.cell (i := 6) rfl
  have q7 := HKB2.out.cell (i := 7) rfl
  have q8 := HKB2.out.cell (i := 8) rfl
  have q9 := HKB2.out.cell (i := 9) rfl
  have q10 := HKB2.out.cell (i := 10) rfl
  have q11 := HKB2.out.cell (i := 11) rfl
  have q12 := HKB2.out.cell (i := 12) rfl
  have q13 := HKB2.out.cell (i := 13) rfl
  have q14 := HKB2.out.cell (i := 14) rfl
  go_wp2_with fail
  refine HSV2.out.mono ?_
  rintro e w3 ⟨rfl, hb3⟩
  have HB3 := hid (bt' HB2.out hb3)
  have HKA3 := hid (HKA2.out.below hb3 HKA2.out.lt)
  have HKB3 := hid (HKB2.out.below hb3 HKB2.out.lt)
  have HSV3 := hid (sameVec_B w3 none none 0 0 [] [] 0 0 rfl rfl (hv_none0 _) (hv_none0 _))
  simp only [decide_true] at HSV3
  clear hb3 p0 p1 p2 p3 p4 p5 p6 p7 p8 p9 p10 p11 p12 p13 p14 q0 q1 q2 q3 q4 q5 q6 q7 q8 q9 q10 q11 q12 q13 q14
  have p0 := HKA3.out.cell (i := 0) rfl
  have p1 := HKA3.out.cell (i := 1) rfl
  have p2 := HKA3.out.cell (i := 2) rfl
  have p3 := HKA3.out.cell (i := 3) rfl
  have p4 := HKA3.out.cell (i := 4) rfl
  have p5 := HKA3.out.cell (i := 5) rfl
  have p6 := HKA3.out.cell (i := 6) rfl
  have p7 := HKA3.out.cell (i := 7) rfl
  have p8 := HKA3.out.cell (i := 8) rfl
  have p9 := HKA3.out.cell (i := 9) rfl
  have p10 := HKA3.out.cell (i := 10) rfl
  have p11 := HKA3.out.cell (i := 11) rfl
  have p12 := HKA3.out.cell (i := 12) rfl
  have p13 := HKA3.out.cell (i := 13) rfl
  have p14 := HKA3.out.cell (i := 14) rfl
  have q0 := HKB3.out.cell (i := 0) rfl
  have q1 := HKB3.out.cell (i := 1) rfl
  have q2 := HKB3.out.cell (i := 2) rfl
  have q3 := HKB3.out.cell (i := 3) rfl
  have q4 := HKB3.out.cell (i := 4) rfl
  have q5 := HKB3.out.cell (i := 5) rfl
  have q6 := HKB3.out.cell (i := 6) rfl
  have q7 := HKB3.out.cell (i := 7) rfl
  have q8 := HKB3.out.cell (i := 8) rfl
  have q9 := HKB3.out.cell (i := 9) rfl
  have q10 := HKB3.out.cell (i := 10) rfl
  have q11 := HKB3.out.cell (i := 11) rfl
  have q12 := HKB3.out.cell (i := 12) rfl
  have q13 := HKB3.out.cell (i := 13) rfl
  have q14 := HKB3.out.cell (i := 14) rfl
  go_wp2_with fail
  refine HSV3.out.mono ?_
  rintro e w4 ⟨rfl, q4, hq4⟩
  have hb4 : Below w3.heap.size w3 w4 := by rw [hq4]; exact below_dn (Below.refl _ _) _
  clear hq4
  have HB4 := hid (bt' HB3.out hb4)
  have HKA4 := hid (HKA3.out.below hb4 HKA3.out.lt)
  have HKB4 := hid (HKB3.out.below hb4 HKB3.out.lt)
  have HSV4 := hid (sameEvs_0 w4)
  skip
  clear hb4 p0 p1 p2 p3 p4 p5 p6 p7 p8 p9 p10 p11 p12 p13 p14 q0 q1 q2 q3 q4 q5 q6 q7 q8 q9 q10 q11 q12 q13 q14
  have p0 := HKA4.out.cell (i := 0) rfl
  have p1 := HKA4.out.cell (i := 1) rfl
  have p2 := HKA4.out.cell (i := 2) rfl
  have p3 := HKA4.out.cell (i := 3) rfl
  have p4 := HKA4.out.cell (i := 4) rfl
  have p5 := HKA4.out.cell (i := 5) rfl
  have p6 := HKA4.out.cell (i := 6) rfl
  have p7 := HKA4.out.cell (i := 7) rfl
  have p8 := HKA4.out.cell (i := 8) rfl
  have p9 := HKA4.out.cell (i := 9) rfl
  have p10 := HKA4.out.cell (i := 10) rfl
  have p11 := HKA4.out.cell (i := 11) rfl
  have p12 := HKA4.out.cell (i := 12) rfl
  have p13 := HKA4.out.cell (i := 13) rfl
  have p14 := HKA4.out.cell (i := 14) rfl
  have q0 := HKB4.out.cell (i := 0) rfl
  have q1 := HKB4.out.cell (i := 1) rfl
  have q2 := HKB4.out.cell (i := 2) rfl
  have q3 := HKB4.out.cell (i := 3) rfl
  have q4 := HKB4.out.cell (i := 4) rfl
  have q5 := HKB4.out.cell (i := 5) rfl
  have q6 := HKB4.out.cell (i := 6) rfl
  have q7 := HKB4.out.cell (i := 7) rfl
  have q8 := HKB4.out.cell (i := 8) rfl
  have q9 := HKB4.out.cell (i := 9) rfl
  have q10 := HKB4.out.cell (i := 10) rfl
  have q11 := HKB4.out.cell (i := 11) rfl
  have q12 := HKB4.out.cell (i := 12) rfl
  have q13 := HKB4.out.cell (i := 13) rfl
  have q14 := HKB4.out.cell (i := 14) rfl
  go_wp2_with fail
  refine HSV4.out.mono ?_
  rintro e w5 ⟨rfl, hb5⟩
  have HB5 := hid (bt' HB4.out hb5)
  have HKA5 := hid (HKA4.out.below hb5 HKA4.out.lt)
  have HKB5 := hid (HKB4.out.below hb5 HKB4.out.lt)
  clear hb5 p0 p1 p2 p3 p4 p5 p6 p7 p8 p9 p10 p11 p12 p13 p14 q0 q1 q2 q3 q4 q5 q6 q7 q8 q9 q10 q11 q12 q13 q14
  have p0 := HKA5.out.cell (i := 0) rfl
  have p1 := HKA5.out.cell (i := 1) rfl
  have p2 := HKA5.out.cell (i := 2) rfl
  have p3 := HKA5.out.cell (i := 3) rfl
  have p4 := HKA5.out.cell (i := 4) rfl
  have p5 := HKA5.out.cell (i := 5) rfl
  have p6 := HKA5.out.cell (i := 6) rfl
  have p7 := HKA5.out.cell (i := 7) rfl
  have p8 := HKA5.out.cell (i := 8) rfl
  have p9 := HKA5.out.cell (i := 9) rfl
  have p10 := HKA5.out.cell (i := 10) rfl
  have p11 := HKA5.out.cell (i := 11) rfl
  have p12 := HKA5.out.cell (i := 12) rfl
  have p13 := HKA5.out.cell (i := 13) rfl
  have p14 := HKA5.out.cell (i := 14) rfl
  have q0 := HKB5.out.cell (i := 0) rfl
  have q1 := HKB5.out.cell (i := 1) rfl
  have q2 := HKB5.out.cell (i := 2) rfl
  have q3 := HKB5.out.cell (i := 3) rfl
  have q4 := HKB5.out.cell (i := 4) rfl
  have q5 := HKB5.out.cell (i := 5) rfl
  have q6 := HKB5.out.cell (i := 6) rfl
  have q7 := HKB5.out.cell (i := 7) rfl
  have q8 := HKB5.out.cell (i := 8) rfl
  have q9 := HKB5.out.cell (i := 9) rfl
  have q10 := HKB5.out.cell (i := 10) rfl
  have q11 := HKB5.out.cell (i := 11) rfl
  have q12 := HKB5.out.cell (i := 12) rfl
  have q13 := HKB5.out.cell (i := 13) rfl
  have q14 := HKB5.out.cell (i := 14) rfl
  go_wp2
  go_ret
  exact ⟨rfl, HB5.out⟩
end Go.Proofs.YtfmnbehopdmahaaGreat
/-
  SameMsg of two answers of an acceptor.
-/
namespace Go.Proofs.YtfmnbehopdmahaaGreat
open Go.RowKit Go.Shelf Go.Maps

set_option maxRecDepth 1000000 in
set_option maxHeartbeats 4000000 in
theorem sameMs_ans (w : World) (kk nd fr br bn sl : Int) (np : Bool) (ao bo : Option Addr) (ca cb N : Nat) (xs ys : List VoM) (hn : xs.length = N) (hx : HeldVo w ao xs) (hy : HeldVo w bo ys) (he : xs.map VoM.sv = ys.map VoM.sv) (hl : N ≤ 4096) : Calls Tryz.prog 11 #[.agg #[.int .i64 kk, .int .i64 nd, .int .i64 fr, .int .i64 br, .int .i64 bn, .int .i64 sl, .bool np, .string ⟨#[]⟩, .string ⟨#[]⟩, .int .i64 0, .slice none 0 0, .slice ao N ca, .slice none 0 0, .slice none 0 0, .int .i64 0], .agg #[.int .i64 kk, .int .i64 nd, .int .i64 fr, .int .i64 br, .int .i64 bn, .int .i64 sl, .bool np, .string ⟨#[]⟩, .string ⟨#[]⟩, .int .i64 0, .slice none 0 0, .slice bo N cb, .slice none 0 0, .slice none 0 0, .int .i64 0]] w fun e w' => e = .returned (.bool true) ∧ Below w.heap.size w w' := by
  have HNN := hid hn
  have HHX := hid hx
  have HHY := hid hy
  have HEE := hid he
  have HLL := hid hl
  clear hn hx hy he hl
  obtain ⟨W1, hW1⟩ : ∃ W, W = w.alloc (.cells #[.int .i64 kk, .int .i64 nd, .int .i64 fr, .int .i64 br, .int .i64 bn, .int .i64 sl, .bool np, .string ⟨#[]⟩, .string ⟨#[]⟩, .int .i64 0, .slice none 0 0, .slice ao N ca, .slice none 0 0, .slice none 0 0, .int .i64 0] 43) := ⟨_, rfl⟩
  obtain ⟨W, hW⟩ : ∃ W, W = W1.alloc (.cells #[.int .i64 kk, .int .i64 nd, .int .i64 fr, .int .i64 br, .int .i64 bn, .int .i64 sl, .bool np, .string ⟨#[]⟩, .string ⟨#[]⟩, .int .i64 0, .slice none 0 0, .slice bo N cb, .slice none 0 0, .slice none 0 0, .int .i64 0] 43) := ⟨_, rfl⟩
  have hs1 : W1.heap.size = w.heap.size + 1 := by rw [hW1]; simp
  have hb1 : Below w.heap.size w W1 := by rw [hW1]; exact (Below.refl _ _).alloc (Nat.le_refl _) _
  have HB : Hid (Below w.heap.size w W) := by rw [hW]; exact hb1.alloc hb1.size _
  obtain ⟨ba, hba⟩ : ∃ q, q = w.heap.size := ⟨_, rfl⟩
  obtain ⟨bb, hbb⟩ : ∃ q, q = w.heap.size + 1 := ⟨_, rfl⟩
  have HKA : Hid (Blk W ba 43 [.int .i64 kk, .int .i64 nd, .int .i64 fr, .int .i64 br, .int .i64 bn, .int .i64 sl, .bool np, .string ⟨#[]⟩, .string ⟨#[]⟩, .int .i64 0, .slice none 0 0, .slice ao N ca, .slice none 0 0, .slice none 0 0, .int .i64 0]) := by rw [hba, hW, hW1]; exact (Blk.new w _ _).alloc _
  have HKB : Hid (Blk W bb 43 [.int .i64 kk, .int .i64 nd, .int .i64 fr, .int .i64 br, .int .i64 bn, .int .i64 sl, .bool np, .string ⟨#[]⟩, .string ⟨#[]⟩, .int .i64 0, .slice none 0 0, .slice bo N cb, .slice none 0 0, .slice none 0 0, .int .i64 0]) := by rw [hbb, hW, ← hs1]; exact Blk.new W1 _ _
  have HW : Hid (W = (w.alloc (.cells #[.int .i64 kk, .int .i64 nd, .int .i64 fr, .int .i64 br, .int .i64 bn, .int .i64 sl, .bool np, .string ⟨#[]⟩, .string ⟨#[]⟩, .int .i64 0, .slice none 0 0, .slice ao N ca, .slice none 0 0, .slice none 0 0, .int .i64 0] 43)).alloc (.cells #[.int .i64 kk, .int .i64 nd, .int .i64 fr, .int .i64 br, .int .i64 bn, .int .i64 sl, .bool np, .string ⟨#[]⟩, .string ⟨#[]⟩, .int .i64 0, .slice none 0 0, .slice bo N cb, .slice none 0 0, .slice none 0 0, .int .i64 0] 43)) := by show _ = _; rw [hW, hW1]
  have HBA := hid hba
  have HBB := hid hbb
  have HSE := hid (sameEntry_B W ⟨np, ⟨#[]⟩, ⟨#[]⟩, 0, []⟩ none none 0 0 (hv_none0 _) (hv_none0 _))
  simp only [EnM.val, List.length_nil] at HSE
  have p0 := HKA.out.cell (i := 0) rfl
  have p1 := HKA.out.cell (i := 1) rfl
  have p2 := HKA.out.cell (i := 2) rfl
  have p3 := HKA.out.cell (i := 3) rfl
  have p4 := HKA.out.cell (i := 4) rfl
  have p5 := HKA.out.cell (i := 5) rfl
  have p6 := HKA.out.cell (i := 6) rfl
  have p7 := HKA.out.cell (i := 7) rfl
  have p8 := HKA.out.cell (i := 8) rfl
  have p9 := HKA.out.cell (i := 9) rfl
  have p10 := HKA.out.cell (i := 10) rfl
  have p11 := HKA.out.cell (i := 11) rfl
  have p12 := HKA.out.cell (i := 12) rfl
  have p13 := HKA.out.cell (i := 13) rfl
  have p14 := HKA.out.cell (i := 14) rfl
  have q0 := HKB.out.cell (i := 0) rfl
  have q1 := HKB.out.cell (i := 1) rfl
  have q2 := HKB.out.cell (i := 2) rfl
  have q3 := HKB.out.cell (i := 3) rfl
  have q4 := HKB.out.cell (i := 4) rfl
  have q5 := HKB.out.cell (i := 5) rfl
  have q6 := HKB.out.cell (i := 6) rfl
  have q7 := HKB.out.cell (i := 7) rfl
  have q8 := HKB.out.cell (i := 8) rfl
  have q9 := HKB.out.cell (i := 9) rfl
  have q10 := HKB.out.cell (i := 10) rfl
  have q11 := HKB.out.cell (i := 11) rfl
  have q12 := HKB.out.cell (i := 12) rfl
  have q13 := HKB.out.cell (i := 13) rfl
  have q14 := HKB.out.cell (i := 14) rfl
  clear hW hW1 hs1 hb1 hba hbb
  go_enter Tryz.func11, Tryz.ntmps11
  go_wp2_with fail
  rw [← HW.out, ← HBB.out, ← HBA.out]
  refine HSE.out.mono ?_
  rintro e w2 ⟨rfl, hb2⟩
  have HB2 := hid (bt' HB.out hb2)
  have HKA2 := hid (HKA.out.below hb2 HKA.out.lt)
  have HKB2 := hid (HKB.out.below hb2 HKB.out.lt)
  have HSV2 := hid (sameVos_B w2 ao bo ca cb xs ys N HNN.out (HHX.out.below HB2.out) (HHY.out.below HB2.out) HEE.out HLL.out)
  skip
  clear hb2 p0 p1 p2 p3 p4 p5 p6 p7 p8 p9 p10 p11 p12 p13 p14 q0 q1 q2 q3 q4 q5 q6 q7 q8 q9 q10 q11 q12 q13 q14
  have p0 := HKA2.out.cell (i := 0) rfl
  have p1 := HKA2.out.cell (i := 1) rfl
  have p2 := HKA2.out.cell (i := 2) rfl
  have p3 := HKA2.out.cell (i := 3) rfl
  have p4 := HKA2.out.cell (i := 4) rfl
  have p5 := HKA2.out.cell (i := 5) rfl
  have p6 := HKA2.out.cell (i := 6) rfl
  have p7 := HKA2.out.cell (i := 7) rfl
  have p8 := HKA2.out.cell (i := 8) rfl
  have p9 := HKA2.out.cell (i := 9) rfl
  have p10 := HKA2.out.cell (i := 10) rfl
  have p11 := HKA2.out.cell (i := 11) rfl
  have p12 := HKA2.out.cell (i := 12) rfl
  have p13 := HKA2.out.cell (i := 13) rfl
  have p14 := HKA2.out.cell (i := 14) rfl
  have q0 := HKB2.out.cell (i := 0) rfl
  have q1 := HKB2.out.cell (i := 1) rfl
  have q2 := HKB2.out.cell (i := 2) rfl
  have q3 := HKB2.out.cell (i := 3) rfl
  have q4 := HKB2.out.cell (i := 4) rfl
  have q5 := HKB2.out.cell (i := 5) rfl
  have q6 := HKB2.out.cell (i := 6) rfl
  have q7 := HKB2.out.cell (i := 7) rfl
  have q8 := HKB2.out.cell (i := 8) rfl
  have q9 := HKB2.out.cell (i := 9) rfl
  have q10 := HKB2.out.cell (i := 10) rfl
  have q11 := HKB2.out.cell (i := 11) rfl
  have q12 := HKB2.out.cell (i := 12) rfl
  have q13 := HKB2.out.cell (i := 13) rfl
  have q14 := HKB2.out.cell (i := 14) rfl
  go_wp2_with fail
  refine HSV2.out.mono ?_
  rintro e w3 ⟨rfl, hb3⟩
  have HB3 := hid (bt' HB2.out hb3)
  have HKA3 := hid (HKA2.out.below hb3 HKA2.out.lt)
  have HKB3 := hid (HKB2.out.below hb3 HKB2.out.lt)
  have HSV3 := hid (sameVec_B w3 none none 0 0 [] [] 0 0 rfl rfl (hv_none0 _) (hv_none0 _))
  simp only [decide_true] at HSV3
  clear hb3 p0 p1 p2 p3 p4 p5 p6 p7 p8 p9 p10 p11 p12 p13 p14 q0 q1 q2 q3 q4 q5 q6 q7 q8 q9 q10 q11 q12 q13 q14
  have p0 := HKA3.out.cell (i := 0) rfl
  have p1 := HKA3.out.cell (i := 1) rfl
  have p2 := HKA3.out.cell (i := 2) rfl
  have p3 := HKA3.out.cell (i := 3) rfl
  have p4 := HKA3.out.cell (i := 4) rfl
  have p5 := HKA3.out.cell (i := 5) rfl
  have p6 := HKA3.out.cell (i := 6) rfl
  have p7 := HKA3.out.cell (i := 7) rfl
  have p8 := HKA3.out.cell (i := 8) rfl
  have p9 := HKA3.out.cell (i := 9) rfl
  have p10 := HKA3.out.cell (i := 10) rfl
  have p11 := HKA3.out.cell (i := 11) rfl
  have p12 := HKA3.out.cell (i := 12) rfl
  have p13 := HKA3.out.cell (i := 13) rfl
  have p14 := HKA3.out.cell (i := 14) rfl
  have q0 := HKB3.out.cell (i := 0) rfl
  have q1 := HKB3.out.cell (i := 1) rfl
  have q2 := HKB3.out.cell (i := 2) rfl
  have q3 := HKB3.out.cell (i := 3) rfl
  have q4 := HKB3.out.cell (i := 4) rfl
  have q5 := HKB3.out.cell (i := 5) rfl
  have q6 := HKB3.out.cell (i := 6) rfl
  have q7 := HKB3.out.cell (i := 7) rfl
  have q8 := HKB3.out.cell (i := 8) rfl
  have q9 := HKB3.out.cell (i := 9) rfl
  have q10 := HKB3.out.cell (i := 10) rfl
  have q11 := HKB3.out.cell (i := 11) rfl
  have q12 := HKB3.out.cell (i := 12) rfl
  have q13 := HKB3.out.cell (i := 13) rfl
  have q14 := HKB3.out.cell (i := 14) rfl
  go_wp2_with fail
  refine HSV3.out.mono ?_
  rintro e w4 ⟨rfl, q4, hq4⟩
  have hb4 : Below w3.heap.size w3 w4 := by rw [hq4]; exact below_dn (Below.refl _ _) _
  clear hq4
  have HB4 := hid (bt' HB3.out hb4)
  have HKA4 := hid (HKA3.out.below hb4 HKA3.out.lt)
  have HKB4 := hid (HKB3.out.below hb4 HKB3.out.lt)
  have HSV4 := hid (sameEvs_0 w4)
  skip
  clear hb4 p0 p1 p2 p3 p4 p5 p6 p7 p8 p9 p10 p11 p12 p13 p14 q0 q1 q2 q3 q4 q5 q6 q7 q8 q9 q10 q11 q12 q13 q14
  have p0 := HKA4.out.cell (i := 0) rfl
  have p1 := HKA4.out.cell (i := 1) rfl
  have p2 := HKA4.out.cell (i := 2) rfl
  have p3 := HKA4.out.cell (i := 3) rfl
  have p4 := HKA4.out.cell (i := 4) rfl
  have p5 := HKA4.out.cell (i := 5) rfl
  have p6 := HKA4.out.cell (i := 6) rfl
  have p7 := HKA4.out.cell (i := 7) rfl
  have p8 := HKA4.out.cell (i := 8) rfl
  have p9 := HKA4.out.cell (i := 9) rfl
  have p10 := HKA4.out.cell (i := 10) rfl
  have p11 := HKA4.out.cell (i := 11) rfl
  have p12 := HKA4.out.cell (i := 12) rfl
  have p13 := HKA4.out.cell (i := 13) rfl
  have p14 := HKA4.out.cell (i := 14) rfl
  have q0 := HKB4.out.cell (i := 0) rfl
  have q1 := HKB4.out.cell (i := 1) rfl
  have q2 := HKB4.out.cell (i := 2) rfl
  have q3 := HKB4.out.cell (i := 3) rfl
  have q4 := HKB4.out.cell (i := 4) rfl
  have q5 := HKB4.out.cell (i := 5) rfl
  have q6 := HKB4.out.cell (i := 6) rfl
  have q7 := HKB4.out.cell (i := 7) rfl
  have q8 := HKB4.out.cell (i := 8) rfl
  have q9 := HKB4.out.cell (i := 9) rfl
  have q10 := HKB4.out.cell (i := 10) rfl
  have q11 := HKB4.out.cell (i := 11) rfl
  have q12 := HKB4.out.cell (i := 12) rfl
  have q13 := HKB4.out.cell (i := 13) rfl
  have q14 := HKB4.out.cell (i := 14) rfl
  go_wp2_with fail
  refine HSV4.out.mono ?_
  rintro e w5 ⟨rfl, hb5⟩
  have HB5 := hid (bt' HB4.out hb5)
  have HKA5 := hid (HKA4.out.below hb5 HKA4.out.lt)
  have HKB5 := hid (HKB4.out.below hb5 HKB4.out.lt)
  clear hb5 p0 p1 p2 p3 p4 p5 p6 p7 p8 p9 p10 p11 p12 p13 p14 q0 q1 q2 q3 q4 q5 q6 q7 q8 q9 q10 q11 q12 q13 q14
  have p0 := HKA5.out.cell (i := 0) rfl
  have p1 := HKA5.out.cell (i := 1) rfl
  have p2 := HKA5.out.cell (i := 2) rfl
  have p3 := HKA5.out.cell (i := 3) rfl
  have p4 := HKA5.out.cell (i := 4) rfl
  have p5 := HKA5.out.cell (i := 5) rfl
  have p6 := HKA5.out.cell (i := 6) rfl
  have p7 := HKA5.out.cell (i := 7) rfl
  have p8 := HKA5.out.cell (i := 8) rfl
  have p9 := HKA5.out.cell (i := 9) rfl
  have p10 := HKA5.out.cell (i := 10) rfl
  have p11 := HKA5.out.cell (i := 11) rfl
  have p12 := HKA5.out.cell (i := 12) rfl
  have p13 := HKA5.out.cell (i := 13) rfl
  have p14 := HKA5.out.cell (i := 14) rfl
  have q0 := HKB5.out.cell (i := 0) rfl
  have q1 := HKB5.out.cell (i := 1) rfl
  have q2 := HKB5.out.cell (i := 2) rfl
  have q3 := HKB5.out.cell (i := 3) rfl
  have q4 := HKB5.out.cell (i := 4) rfl
  have q5 := HKB5.out.cell (i := 5) rfl
  have q6 := HKB5.out.cell (i := 6) rfl
  have q7 := HKB5.out.cell (i := 7) rfl
  have q8 := HKB5.out.cell (i := 8) rfl
  have q9 := HKB5.out.cell (i := 9) rfl
  have q10 := HKB5.out.cell (i := 10) rfl
  have q11 := HKB5.out.cell (i := 11) rfl
  have q12 := HKB5.out.cell (i := 12) rfl
  have q13 := HKB5.out.cell (i := 13) rfl
  have q14 := HKB5.out.cell (i := 14) rfl
  go_wp2
  go_ret
  exact ⟨rfl, HB5.out⟩
end Go.Proofs.YtfmnbehopdmahaaGreat
/-
  What must come of every acceptor: the laws' lives.
-/
namespace Go.Proofs.YtfmnbehopdmahaaGreat
open Go.RowKit Go.Maps

/-- A message to node 1 with a Noop. -/
def mkMs (k fr : Int) (b : Int × Int) (sl : Int) : MsM := ⟨k, fr, 1, b, sl, ⟨noopEn, none, 0⟩, none, 0, [], none, 0, [], none, 0, [], 0⟩
theorem hv_noneY (w : World) : HV w none 0 [] := ⟨⟨fun x h => (by cases h), .inl rfl⟩, Nat.le_refl _, Nat.zero_le _⟩
theorem i64_0Y : I64 0 := by unfold I64; decide
theorem i64_1Y : I64 1 := by unfold I64; decide
theorem mkMs_ok (w : World) (k fr : Int) (b : Int × Int) (sl : Int) (hk : I64 k) (hf : I64 fr) (h1 : I64 b.1) (h2 : I64 b.2) (hs : I64 sl) : MsOk w (mkMs k fr b sl) :=
  ⟨⟨hv_noneY w, i64_0Y, Nat.zero_le _, Nat.zero_le _⟩, ⟨fun x h => (by cases h), .inl rfl⟩, Nat.zero_le _, hv_noneY w, ⟨fun x h => (by cases h), .inl rfl⟩, Nat.zero_le _, hk, hf, i64_1Y, h1, h2, hs, i64_0Y⟩
theorem mkMs_b (B : Nat) (k fr : Int) (b : Int × Int) (sl : Int) : MsB B (mkMs k fr b sl) := fun _ _ e _ => by cases e
def ms1 : MsM := mkMs 1 0 (2, 0) 0
def ms2 : MsM := mkMs 3 2 (1, 2) 0
def ms3 : MsM := mkMs 3 0 (2, 0) 3
def ac0 : Ac := newAc 1
def ac1 : Ac := promA ac0 (2, 0)
def ac3 : Ac := voteA ac1 3 ((2, 0), noopEn)
theorem takes_1 : takesA ac0 ms1 = true := by decide +kernel
theorem kind_1 : kindA ac0 ms1 = 2 := by decide +kernel
theorem after_1 : afterA ac0 ms1 = ac1 := by unfold afterA; rw [if_pos kind_1]; rfl
theorem rec_1 : ¬ (if changesA ac0 ms1 = true then recOf ms1 else ⟨#[]⟩ : ByteArray).toList = [] := by decide +kernel
theorem takes_2 : takesA ac1 ms2 = true := by decide +kernel
theorem kind_2 : kindA ac1 ms2 = 5 := by decide +kernel
theorem after_2 : afterA ac1 ms2 = ac1 := kind5_after kind_2
theorem rec_2 : (if changesA ac1 ms2 = true then recOf ms2 else ⟨#[]⟩) = (⟨#[]⟩ : ByteArray) := kind5_rec kind_2
theorem takes_3 : takesA ac1 ms3 = true := by decide +kernel
theorem kind_3 : kindA ac1 ms3 = 4 := by decide +kernel
theorem after_3 : afterA ac1 ms3 = ac3 := by unfold afterA; rw [if_neg (by rw [kind_3]; decide), if_pos kind_3]; rfl
theorem rec_3 : ¬ (if changesA ac1 ms3 = true then recOf ms3 else ⟨#[]⟩ : ByteArray).toList = [] := by decide +kernel
theorem votes_3 : (fromTo ac3 0 ac3.ks.length).length = 1 := by decide +kernel
set_option maxRecDepth 1000000 in
set_option maxHeartbeats 4000000 in
theorem livesAc (w : World) : Calls Tryz.prog 7 #[] w fun e w' => e = .returned (.bool true) ∧ Below w.heap.size w w' := by
  have HNEW := hid (newA_good w 1 (by omega) (by omega))
  go_enter Tryz.func7, Tryz.ntmps7
  go_wp2_with fail
  refine HNEW.out.mono ?_
  rintro e w1 ⟨p, m, rfl, hat, hb1, hp, hm⟩
  obtain ⟨W2, hW2⟩ : ∃ V, V = w1.alloc (.cells #[.bool true, .string ⟨#[]⟩, .string ⟨#[]⟩, .int .i64 0, .slice none 0 0] 39) := ⟨_, rfl⟩
  have hb2 : Below w1.heap.size w1 W2 := by rw [hW2]; exact (Below.refl _ _).alloc (Nat.le_refl _) _
  obtain ⟨be, hbe⟩ : ∃ q, q = w1.heap.size := ⟨_, rfl⟩
  have HL2 : Hid (AcIn w.heap.size W2 p m ac0) := ⟨hat.below hb2, hp, hm⟩
  have HB2 := hid (bt' hb1 hb2)
  have HK2 : Hid (Blk W2 be 39 [.bool true, .string ⟨#[]⟩, .string ⟨#[]⟩, .int .i64 0, .slice none 0 0]) := by rw [hW2, hbe]; exact Blk.new w1 _ _
  have HPF : Hid (¬ FootA p m be) := fun hf => by have := hat.lt _ hf; omega
  have HW2 := hid hW2
  have HBE := hid hbe
  obtain ⟨R1, HR1⟩ : ∃ R, Hid ((if changesA ac0 ms1 = true then recOf ms1 else ⟨#[]⟩) = R) := ⟨_, hid rfl⟩
  have hR1 : ¬ R1.toList = [] := by rw [← HR1.out]; exact rec_1
  obtain ⟨R3, HR3⟩ : ∃ R, Hid ((if changesA ac1 ms3 = true then recOf ms3 else ⟨#[]⟩) = R) := ⟨_, hid rfl⟩
  have hR3 : ¬ R3.toList = [] := by rw [← HR3.out]; exact rec_3
  have HC1 := hid (HL2.out.on_yes HB2.out.size ms1 (mkMs_ok _ _ _ _ _ (by unfold I64; decide) (by unfold I64; decide) (by unfold I64; decide) (by unfold I64; decide) (by unfold I64; decide)) (mkMs_b _ _ _ _ _) takes_1 after_1 kind_1 HR1.out (r := 2) (n := 0) (nd := 1) rfl rfl)
  simp only [ms1, mkMs, MsM.val, noopEn, List.length_nil] at HC1
  have c0 := HK2.out.cell (i := 0) rfl
  have c1 := HK2.out.cell (i := 1) rfl
  have c2 := HK2.out.cell (i := 2) rfl
  have c3 := HK2.out.cell (i := 3) rfl
  have c4 := HK2.out.cell (i := 4) rfl
  rw [HW2.out] at c0 c1 c2 c3 c4
  rw [HBE.out] at c0 c1 c2 c3 c4
  clear hat hb1 hb2 hp hm hW2 hbe HNEW
  go_wp2_with fail
  rw [← HW2.out, ← HBE.out]
  refine HC1.out.mono ?_
  rintro e v1 ⟨⟨vo1, vc1, N1, rfl⟩, hac1, ht1, hb1⟩
  obtain ⟨V1, hV1⟩ : ∃ V, V = v1.alloc (.cells #[.int .i64 2, .int .i64 1, .int .i64 0, .int .i64 2, .int .i64 0, .int .i64 0, .bool true, .string ⟨#[]⟩, .string ⟨#[]⟩, .int .i64 0, .slice none 0 0, .slice vo1 N1 vc1, .slice none 0 0, .slice none 0 0, .int .i64 0] 43) := ⟨_, rfl⟩
  have hc1 : Below v1.heap.size v1 V1 := by rw [hV1]; exact (Below.refl _ _).alloc (Nat.le_refl _) _
  obtain ⟨z1, hz1⟩ : ∃ q, q = v1.heap.size := ⟨_, rfl⟩
  have HZ1 : Hid (Blk V1 z1 43 [.int .i64 2, .int .i64 1, .int .i64 0, .int .i64 2, .int .i64 0, .int .i64 0, .bool true, .string ⟨#[]⟩, .string ⟨#[]⟩, .int .i64 0, .slice none 0 0, .slice vo1 N1 vc1, .slice none 0 0, .slice none 0 0, .int .i64 0]) := by rw [hV1, hz1]; exact Blk.new v1 _ _
  have HLV1 := hid (hac1.below hc1)
  have HBV1 := hid (bt' (HB2.out.trans hb1) hc1)
  have HPZ1 : Hid (¬ FootA p m z1) := fun hf => by have := hac1.at'.lt _ hf; omega
  have HVE1 := hid hV1
  have HZE1 := hid hz1
  have HEB1 := hid ((ht1.blk HK2.out HPF.out).below hc1 (ht1.blk HK2.out HPF.out).lt)
  have HC2 := hid (HLV1.out.on_yes HBV1.out.size ms2 (mkMs_ok _ _ _ _ _ (by unfold I64; decide) (by unfold I64; decide) (by unfold I64; decide) (by unfold I64; decide) (by unfold I64; decide)) (mkMs_b _ _ _ _ _) takes_2 after_2 kind_2 rec_2 (r := 2) (n := 0) (nd := 1) rfl rfl)
  simp only [ms2, mkMs, MsM.val, noopEn, List.length_nil] at HC2
  clear c0 c1 c2 c3 c4
  have c0 := HEB1.out.cell (i := 0) rfl
  have c1 := HEB1.out.cell (i := 1) rfl
  have c2 := HEB1.out.cell (i := 2) rfl
  have c3 := HEB1.out.cell (i := 3) rfl
  have c4 := HEB1.out.cell (i := 4) rfl
  rw [HVE1.out] at c0 c1 c2 c3 c4
  clear hac1 ht1 hb1 hc1 hV1 hz1 HC1
  go_wp2_with fail
  rw [← HVE1.out, ← HZE1.out]
  refine HC2.out.mono ?_
  rintro e v2 ⟨⟨vo2, vc2, N2, rfl⟩, hac2, ht2, hb2⟩
  obtain ⟨V2, hV2⟩ : ∃ V, V = v2.alloc (.cells #[.int .i64 5, .int .i64 1, .int .i64 2, .int .i64 2, .int .i64 0, .int .i64 0, .bool true, .string ⟨#[]⟩, .string ⟨#[]⟩, .int .i64 0, .slice none 0 0, .slice vo2 N2 vc2, .slice none 0 0, .slice none 0 0, .int .i64 0] 43) := ⟨_, rfl⟩
  have hc2 : Below v2.heap.size v2 V2 := by rw [hV2]; exact (Below.refl _ _).alloc (Nat.le_refl _) _
  obtain ⟨z2, hz2⟩ : ∃ q, q = v2.heap.size := ⟨_, rfl⟩
  have HZ2 : Hid (Blk V2 z2 43 [.int .i64 5, .int .i64 1, .int .i64 2, .int .i64 2, .int .i64 0, .int .i64 0, .bool true, .string ⟨#[]⟩, .string ⟨#[]⟩, .int .i64 0, .slice none 0 0, .slice vo2 N2 vc2, .slice none 0 0, .slice none 0 0, .int .i64 0]) := by rw [hV2, hz2]; exact Blk.new v2 _ _
  have HLV2 := hid (hac2.below hc2)
  have HBV2 := hid (bt' (HBV1.out.trans hb2) hc2)
  have HPZ2 : Hid (¬ FootA p m z2) := fun hf => by have := hac2.at'.lt _ hf; omega
  have HVE2 := hid hV2
  have HZE2 := hid hz2
  have HEB2 := hid ((ht2.blk HEB1.out HPF.out).below hc2 (ht2.blk HEB1.out HPF.out).lt)
  have HZ1b := hid ((ht2.blk HZ1.out HPZ1.out).below hc2 (ht2.blk HZ1.out HPZ1.out).lt)
  have HC3 := hid (HLV2.out.on_yes HBV2.out.size ms3 (mkMs_ok _ _ _ _ _ (by unfold I64; decide) (by unfold I64; decide) (by unfold I64; decide) (by unfold I64; decide) (by unfold I64; decide)) (mkMs_b _ _ _ _ _) takes_3 after_3 kind_3 HR3.out (r := 2) (n := 0) (nd := 1) rfl rfl)
  simp only [ms3, mkMs, MsM.val, noopEn, List.length_nil] at HC3
  clear c0 c1 c2 c3 c4
  have c0 := HEB2.out.cell (i := 0) rfl
  have c1 := HEB2.out.cell (i := 1) rfl
  have c2 := HEB2.out.cell (i := 2) rfl
  have c3 := HEB2.out.cell (i := 3) rfl
  have c4 := HEB2.out.cell (i := 4) rfl
  rw [HVE2.out] at c0 c1 c2 c3 c4
  clear hac2 ht2 hb2 hc2 hV2 hz2 HC2
  go_wp2_with fail
  rw [← HVE2.out, ← HZE2.out]
  refine HC3.out.mono ?_
  rintro e v3 ⟨⟨vo3, vc3, N3, rfl⟩, hac3, ht3, hb3⟩
  obtain ⟨V3, hV3⟩ : ∃ V, V = v3.alloc (.cells #[.int .i64 4, .int .i64 1, .int .i64 0, .int .i64 2, .int .i64 0, .int .i64 3, .bool true, .string ⟨#[]⟩, .string ⟨#[]⟩, .int .i64 0, .slice none 0 0, .slice vo3 N3 vc3, .slice none 0 0, .slice none 0 0, .int .i64 0] 43) := ⟨_, rfl⟩
  have hc3 : Below v3.heap.size v3 V3 := by rw [hV3]; exact (Below.refl _ _).alloc (Nat.le_refl _) _
  obtain ⟨z3, hz3⟩ : ∃ q, q = v3.heap.size := ⟨_, rfl⟩
  have HZ3 : Hid (Blk V3 z3 43 [.int .i64 4, .int .i64 1, .int .i64 0, .int .i64 2, .int .i64 0, .int .i64 3, .bool true, .string ⟨#[]⟩, .string ⟨#[]⟩, .int .i64 0, .slice none 0 0, .slice vo3 N3 vc3, .slice none 0 0, .slice none 0 0, .int .i64 0]) := by rw [hV3, hz3]; exact Blk.new v3 _ _
  have HLV3 := hid (hac3.below hc3)
  have HBV3 := hid (bt' (HBV2.out.trans hb3) hc3)
  have HPZ3 : Hid (¬ FootA p m z3) := fun hf => by have := hac3.at'.lt _ hf; omega
  have HVE3 := hid hV3
  have HZE3 := hid hz3
  have HZ1c3 := hid ((ht3.blk HZ1b.out HPZ1.out).below hc3 (ht3.blk HZ1b.out HPZ1.out).lt)
  have HZ2c3 := hid ((ht3.blk HZ2.out HPZ2.out).below hc3 (ht3.blk HZ2.out HPZ2.out).lt)
  have HVO := hid HLV3.out.at'.votes
  have a0 := HZ1c3.out.cell (i := 0) rfl
  have b0 := HZ2c3.out.cell (i := 0) rfl
  have b3 := HZ2c3.out.cell (i := 3) rfl
  have d0 := HZ3.out.cell (i := 0) rfl
  rw [HVE3.out] at a0 b0 b3 d0
  rw [HZE3.out] at d0
  clear hac3 ht3 hb3 hc3 hV3 hz3 HC3 c0 c1 c2 c3 c4
  go_wp2_with fail
  rw [← HVE3.out]
  refine HVO.out.mono ?_
  rintro e w9 ⟨vo, vc, vs, rfl, hmap, _, _, _, hb9⟩
  have hlen : vs.length = 1 := by have := congrArg List.length hmap; rw [votes_3] at this; simpa using this
  rw [hlen]
  have HB9 := hid (bt' HBV3.out hb9)
  clear hmap hb9 hlen
  go_wp2
  go_ret
  have hE1 : R1.toList.isEmpty = false := by simpa using hR1
  have hE3 : R3.toList.isEmpty = false := by simpa using hR3
  refine ⟨?_, HB9.out⟩
  show Ending.returned (.bool (!R1.toList.isEmpty && !R3.toList.isEmpty)) = _
  rw [hE1, hE3]
  rfl
end Go.Proofs.YtfmnbehopdmahaaGreat
