/-
  Three acceptors side by side ('A3').
-/
import Derived.Test.YtfmnbehopdmahaaGreatAcX
import Derived.Test.YtfmnbehopdmahaaGreatSealA
import Derived.Test.YtfmnbehopdmahaaGreatRwA
import Derived.Lib.SlMapFilter
import Derived.Maps.RangeWalk
import Derived.Test.YtfmnbehopdmahaaGreatRqA
import Derived.Test.YtfmnbehopdmahaaGreatAcH
import Derived.Test.YtfmnbehopdmahaaGreatScLa
import Derived.Deep.RegionHeld3
import Derived.BigRegion
import Derived.Test.YtfmnbehopdmahaaGreatRwB
import Derived.Test.YtfmnbehopdmahaaGreatRows
import Derived.Test.YtfmnbehopdmahaaGreatTexts
import Derived.SliceStrings
import Derived.ChangeSlices
namespace Go.Proofs.YtfmnbehopdmahaaGreat
open Go.RowKit Go.Maps

structure A3 (B : Nat) (w : World) (p m q n r o : Nat) (a b c : Ac) : Prop where
  x : AcIn B w p m a
  y : AcIn B w q n b
  z : AcIn B w r o c
  d1 : ∀ i, FootA p m i → ¬ FootA q n i
  d2 : ∀ i, FootA p m i → ¬ FootA r o i
  d3 : ∀ i, FootA q n i → ¬ FootA r o i
section
variable {B : Nat} {w w' : World} {p m q n r o : Nat} {a b c a' : Ac}
theorem AcIn.other {F : Nat → Prop} (h : AcIn B w p m a) (ht : Turns F w w') (hd : ∀ i, FootA p m i → ¬ F i) (hF : NoNum w F) : AcIn B w' p m a := ⟨h.at'.turned ht hd hF, h.bp, h.bm⟩
theorem AcIn.foot (h : AcIn B w p m a) : ∀ i, FootA p m i → B ≤ i := fun i hi => by
  rcases hi with rfl | rfl
  · exact h.bp
  · exact h.bm
theorem A3.below (h : A3 B w p m q n r o a b c) (hb : Below w.heap.size w w') : A3 B w' p m q n r o a b c := ⟨h.x.below hb, h.y.below hb, h.z.below hb, h.d1, h.d2, h.d3⟩
theorem A3.turnX (h : A3 B w p m q n r o a b c) (hx : AcIn B w' p m a') (ht : Turns (FootA p m) w w') : A3 B w' p m q n r o a' b c :=
  ⟨hx, h.y.other ht (fun i hi hf => h.d1 i hf hi) h.x.at'.noNum, h.z.other ht (fun i hi hf => h.d2 i hf hi) h.x.at'.noNum, h.d1, h.d2, h.d3⟩
theorem A3.turnY (h : A3 B w p m q n r o a b c) (hx : AcIn B w' q n a') (ht : Turns (FootA q n) w w') : A3 B w' p m q n r o a a' c :=
  ⟨h.x.other ht h.d1 h.y.at'.noNum, hx, h.z.other ht (fun i hi hf => h.d3 i hf hi) h.y.at'.noNum, h.d1, h.d2, h.d3⟩
theorem A3.turnZ (h : A3 B w p m q n r o a b c) (hx : AcIn B w' r o a') (ht : Turns (FootA r o) w w') : A3 B w' p m q n r o a b a' :=
  ⟨h.x.other ht h.d2 h.z.at'.noNum, h.y.other ht h.d3 h.z.at'.noNum, hx, h.d1, h.d2, h.d3⟩
end
end Go.Proofs.YtfmnbehopdmahaaGreat
/-
  Package acceptor: Would.
-/
namespace Go.Proofs.YtfmnbehopdmahaaGreat
open Go.RowKit Go.Maps

/-- The record that On would answer. -/
def wouldA (a : Ac) (x : MsM) : ByteArray := if takesA a x = true then (if changesA a x = true then recOf x else ⟨#[]⟩) else ⟨#[]⟩
set_option maxRecDepth 1000000 in
set_option maxHeartbeats 4000000 in
theorem AcAt.would {w : World} {p m : Nat} {a : Ac} (h : AcAt w p m a) (x : MsM) (hx : MsOk w x) : Calls Tryz.prog 8 #[.pointer (some ⟨p, 0, none⟩), x.val] w fun e w' => e = .returned (.tuple #[.string (wouldA a x), .bool (takesA a x)]) ∧ Below w.heap.size w w' := by
  obtain ⟨W, hW⟩ : ∃ W, W = w.alloc (.cells x.cells.toArray 43) := ⟨_, rfl⟩
  have HB : Hid (Below w.heap.size w W) := by rw [hW]; exact (Below.refl _ _).alloc (Nat.le_refl _) _
  obtain ⟨bm, hbm⟩ : ∃ q, q = w.heap.size := ⟨_, rfl⟩
  have HKM : Hid (Blk W bm 43 x.cells) := by rw [hbm, hW]; exact Blk.new w _ _
  have HEF := hid ((h.below HB.out).effectOf x (hx.below HB.out))
  have HW := hid hW
  have HBM := hid hbm
  obtain ⟨RR, HRR⟩ : ∃ q, Hid ((if changesA a x = true then recOf x else ⟨#[]⟩) = q) := ⟨_, hid rfl⟩
  have HWY : Hid (takesA a x = true → wouldA a x = RR) := fun h => by unfold wouldA; rw [if_pos h, HRR.out]
  have HWN : Hid (¬ takesA a x = true → wouldA a x = ⟨#[]⟩) := fun h => by unfold wouldA; rw [if_neg h]
  have HYES : Hid (∀ e w', EffP W p a x e w' → takesA a x = true → ∃ k c f lb, e = .returned (.tuple #[effV k c RR f lb, .bool true]) ∧ Below W.heap.size W w') := fun e w' hP ht => by
    obtain ⟨h1, h2⟩ := hP
    rw [if_pos ht, HRR.out] at h2
    obtain ⟨f, lb, h3, _⟩ := h2
    exact ⟨_, _, f, lb, h3, h1⟩
  have HNO : Hid (∀ e w', EffP W p a x e w' → ¬ takesA a x = true → e = .returned (.tuple #[.agg #[.int .i64 0, .bool false, .string ⟨#[]⟩, .nilFunc], .bool false]) ∧ Below W.heap.size W w') := fun e w' hP ht => by
    obtain ⟨h1, h2⟩ := hP
    rw [if_neg ht] at h2
    exact ⟨h2, h1⟩
  have HEM : Hid (Calls Tryz.prog 19 #[.pointer (some ⟨p, 0, none⟩), x.val] W (fun e w' => EffP W p a x e w')) := HEF.out
  obtain ⟨TT, HTT⟩ : ∃ q, Hid (takesA a x = q) := ⟨_, hid rfl⟩
  obtain ⟨WA, HWA⟩ : ∃ q, Hid (wouldA a x = q) := ⟨_, hid rfl⟩
  rw [HTT.out] at HYES HNO HWY HWN ⊢
  rw [HWA.out] at HWY HWN ⊢
  have HPOST : Hid (∀ e w', EffP W p a x e w' → (TT = true ∧ ∃ k c f lb, e = .returned (.tuple #[effV k c WA f lb, .bool true]) ∧ Below W.heap.size W w') ∨ (TT = false ∧ WA = ⟨#[]⟩ ∧ e = .returned (.tuple #[.agg #[.int .i64 0, .bool false, .string ⟨#[]⟩, .nilFunc], .bool false]) ∧ Below W.heap.size W w')) := fun e w' hP => by
    cases TT with
    | true =>
      obtain ⟨k, c, f, lb, h1, h2⟩ := HYES.out e w' hP rfl
      rw [HWY.out rfl]
      exact .inl ⟨rfl, k, c, f, lb, h1, h2⟩
    | false =>
      obtain ⟨h1, h2⟩ := HNO.out e w' hP (by decide)
      exact .inr ⟨rfl, HWN.out (by decide), h1, h2⟩
  have HCALL := hid (HEM.out.mono HPOST.out)
  clear h hW hbm hx HEF HEM HPOST HYES HNO HWY HWN HRR HWA HTT
  obtain ⟨kd, fr, to, ⟨br, bn⟩, sl, ⟨⟨np, tk, ct, ep, cut⟩, ao1, cap1⟩, vo, vc, vs, so, sc, seen, eo, ec, evs, ti⟩ := x
  obtain ⟨XN, HXN⟩ : ∃ m, Hid (cut.length = m) := ⟨_, hid rfl⟩
  obtain ⟨VN, HVN⟩ : ∃ m, Hid (vs.length = m) := ⟨_, hid rfl⟩
  obtain ⟨SN, HSN⟩ : ∃ m, Hid (seen.length = m) := ⟨_, hid rfl⟩
  obtain ⟨EN, HEN⟩ : ∃ m, Hid (evs.length = m) := ⟨_, hid rfl⟩
  simp only [MsM.val, MsM.cells] at HW HKM HCALL ⊢
  rw [HXN.out, HVN.out, HSN.out, HEN.out] at HW HKM HCALL
  rw [HXN.out, HVN.out, HSN.out, HEN.out]
  have q0 := HKM.out.cell (i := 0) rfl
  have q1 := HKM.out.cell (i := 1) rfl
  have q2 := HKM.out.cell (i := 2) rfl
  have q3 := HKM.out.cell (i := 3) rfl
  have q4 := HKM.out.cell (i := 4) rfl
  have q5 := HKM.out.cell (i := 5) rfl
  have q6 := HKM.out.cell (i := 6) rfl
  have q7 := HKM.out.cell (i := 7) rfl
  have q8 := HKM.out.cell (i := 8) rfl
  have q9 := HKM.out.cell (i := 9) rfl
  have q10 := HKM.out.cell (i := 10) rfl
  have q11 := HKM.out.cell (i := 11) rfl
  have q12 := HKM.out.cell (i := 12) rfl
  have q13 := HKM.out.cell (i := 13) rfl
  have q14 := HKM.out.cell (i := 14) rfl
  go_enter Tryz.func8, Tryz.ntmps8
  go_wp2_with fail
  rw [← HW.out, ← HBM.out]
  refine HCALL.out.mono ?_
  rintro e w2 (⟨rfl, k, c, f, lb, rfl, hb2⟩ | ⟨rfl, rfl, rfl, hb2⟩)
  · have HB2 := hid (bt' HB.out hb2)
    unfold effV
    clear hb2 q0 q1 q2 q3 q4 q5 q6 q7 q8 q9 q10 q11 q12 q13 q14
    go_wp2
    go_ret2
    exact ⟨rfl, HB2.out.alloc HB2.out.size _⟩
  · have HB2 := hid (bt' HB.out hb2)
    clear hb2 q0 q1 q2 q3 q4 q5 q6 q7 q8 q9 q10 q11 q12 q13 q14
    go_wp2
    go_ret2
    exact ⟨rfl, HB2.out.alloc HB2.out.size _⟩
end Go.Proofs.YtfmnbehopdmahaaGreat
/-
  A map from which the keys that a predicate names are struck: what it holds (mathematics for Drop).
-/
namespace Go.Proofs.YtfmnbehopdmahaaGreat
open Go.RowKit Go.Maps

theorem find_keepV {f : Lit × DataW Value → Bool} {kl : Lit} : ∀ {es : List (Lit × DataW Value)}, (∀ p ∈ es, p.1 = kl → f p = true) → (es.filter f).find? (fun p => p.1.sameKey kl) = es.find? (fun p => p.1.sameKey kl)
  | [], _ => rfl
  | x :: r, h => by
    have ih := find_keepV (es := r) (fun p hp => h p (List.mem_cons_of_mem _ hp))
    cases hk : x.1.sameKey kl with
    | true =>
      have hx := h x List.mem_cons_self (WideAt.sameKey_eq hk)
      rw [List.filter_cons_of_pos hx]
      simp [List.find?, hk]
    | false =>
      cases hx : f x with
      | true =>
        rw [List.filter_cons_of_pos hx]
        simp only [List.find?, hk]
        exact ih
      | false =>
        rw [List.filter_cons_of_neg (by rw [hx]; decide)]
        simp only [List.find?, hk]
        exact ih
theorem look_Fk {pd : Lit → DataW Value → Bool} {es : List (Lit × DataW Value)} {left : Lit → Bool} {kl : Lit} (h : left kl = true) : look (Fk pd es left) kl = look (.map es) kl := by
  unfold Fk look
  simp only [DataW.atKey]
  rw [find_keepV (fun p _ e => by rw [e, h, Bool.or_true])]
theorem look_dropV {pk : Lit → Bool} {es : List (Lit × DataW Value)} {kl : Lit} : look (Lib.deleteFuncD (fun k _ => pk k) (.map es)) kl = if pk kl = true then none else look (.map es) kl := by
  unfold Lib.deleteFuncD look
  simp only [DataW.atKey]
  by_cases hp : pk kl = true
  · rw [if_pos hp]
    have : (es.filter (fun p => !pk p.1)).find? (fun p => p.1.sameKey kl) = none := by
      rw [List.find?_eq_none]
      intro x hx hs
      have h1 := (List.mem_filter.1 hx).2
      rw [WideAt.sameKey_eq hs, hp] at h1
      cases h1
    rw [this]
  · rw [if_neg hp, find_keepV (fun p _ e => by rw [e]; simpa using hp)]
/-- Of which slots the votes are struck. -/
def belowK (s : Int) : Lit → Bool
  | .int _ z => decide (z < s)
  | _ => false
end Go.Proofs.YtfmnbehopdmahaaGreat
/-
  maps.DeleteFunc at the map of votes, by hand (its value is a struct in a box): Drop.
-/
namespace Go.Proofs.YtfmnbehopdmahaaGreat
open Go.RowKit Go.Maps

theorem grown_ofB {w w' : World} (h : Below w.heap.size w w') : w.grownBy w' none := ⟨h.os, h.tape, h.output, h.size, fun k hk _ => h.block k hk⟩
theorem at_of_look {es : List (Lit × DataW Value)} {kl : Lit} {v : Value} (h : look (.map es) kl = some v) : ∀ zd, (DataW.map es).atKey kl zd = .held v := by
  intro zd
  unfold look at h
  simp only [DataW.atKey] at h ⊢
  cases hf : es.find? (fun p => p.1.sameKey kl) with
  | none => rw [hf] at h; simp at h
  | some p =>
    rw [hf] at h
    simp only at h ⊢
    cases hp : p.2 <;> rw [hp] at h <;> simp at h
    rw [h]
set_option maxRecDepth 100000 in
set_option maxHeartbeats 2000000 in
theorem deleteVo {w : World} {m n bs : Nat} {S : Int → Option VoM} {D : DataW Value} {s : Int} (h : VoMap w m S n D) (hbox : Blk w bs 3 [.int .i64 s]) : Calls Tryz.prog 31 #[.map (some m), .func (.func 32) #[] #[.pointer (some ⟨bs, 0, none⟩)]] w fun e w' => e = .returned (.tuple #[]) ∧ w'.ownsMap Tryz.prog 3 valR m n (Lib.deleteFuncD (fun k _ => belowK s k) D) ∧ w.grownBy w' (some m) := by
  obtain ⟨es0, rfl, hap, hkeys⟩ := h.map.entries Tryz.keyedIntL
  have HEM := hid h
  have HAP := hid hap
  have HBX := hid hbox
  have HMB : Hid (bs ≠ m) := hbox.not_map h.map
  have HFK := hid (Fk_start (pd := fun k _ => belowK s k) hkeys)
  clear h hap hkeys hbox
  go_enter Tryz.func31, Tryz.ntmps31
  go_wp2_with (at_range; refine wpList_range_own _ rfl _ 57 rfl 3 73 Tryz.keyedIntL Tryz.underlying57 valR m _ _ rfl HEM.out.map ?_; intro w0 hrg0 hg0 hs0)
  obtain ⟨r, hr⟩ : ∃ r, r = w.heap.size := ⟨_, rfl⟩
  rw [← hr] at hrg0 ⊢
  have HR := hid hr
  clear hr
  go_simp
  go_loopw [8] (fun _ wr => ∃ (left : Lit → Bool) (cnt : Nat), Hid (wr.ranges Tryz.prog 3 valR m r n (Fk (fun k _ => belowK s k) es0 left) left cnt ∧ w.grownBy wr (some m))) (fun _ wr => wr.rangeLeft m r)
  case atStart => exact ⟨_, _, by rw [HFK.out]; exact hrg0, hg0.but _⟩
  case round =>
    obtain ⟨left, cnt, HI⟩ := hrel
    go_wp2_with (first | (at_next; refine wpList_next_intL _ rfl _ rfl m r n _ left cnt rfl HI.out.1 ?_ ?_) | fail)
    · intro _ hl0
      have HE : Hid (_ ∧ _) := ⟨by have := HI.out.1.owns; rw [Fk_end hl0] at this; exact this, HI.out.2⟩
      clear hl0
      go_wp2
      go_end0
      exact ⟨rfl, HE.out⟩
    · intro z v w1 cnt1 hz hv hlf hrg1 hlt1 hgr hsz hen
      have hv2 : look (DataW.map es0) (.int .i64 z) = some v := by rw [look_Fk hlf] at hv; exact hv
      rw [HEM.out.key z hz] at hv2
      obtain ⟨x, hx, hxv⟩ := Option.map_eq_some_iff.1 hv2
      obtain ⟨sl, ⟨br, bn⟩, ⟨⟨np, tk, ct, ep, dp⟩, ao, cp⟩⟩ := x
      obtain rfl : sl = z := (HEM.out.ok _ _ hx).2
      simp only [VoM.val] at hxv
      obtain ⟨XN, HXN⟩ : ∃ q, Hid (dp.length = q) := ⟨_, hid rfl⟩
      rw [HXN.out] at hxv
      subst hxv
      have HAT := hid (at_of_look hv)
      have HZ := hid hz
      have HLF := hid hlf
      have HLT := hid hlt1
      have HG1 : Hid (w.grownBy w1 (some m)) := HI.out.2.andThen hgr (fun j hj => by cases hj; exact .inl (by rw [HR.out]; exact Nat.le_refl _))
      have HRG1 := hid hrg1
      obtain ⟨W3, hW3⟩ : ∃ V, V = w1.alloc (.cells #[.int .i64 sl, .int .i64 br, .int .i64 bn, .bool np, .string tk, .string ct, .int .i64 ep, .slice ao XN cp] 73) := ⟨_, rfl⟩
      have HB3 : Hid (Below w1.heap.size w1 W3) := by rw [hW3]; exact (Below.refl _ w1).alloc (Nat.le_refl _) _
      have HBX3 : Hid (Blk W3 bs 3 [.int .i64 s]) := by
        have h1 : Blk w1 bs 3 [.int .i64 s] := (HG1.out.block bs HBX.out.lt (by intro e; exact HMB.out (Option.some.inj e))).trans HBX.out
        exact h1.below HB3.out h1.lt
      have HRG3 := hid (HRG1.out.kept (grown_ofB HB3.out) (by simp) (by simp))
      clear hv hlf hrg1 hlt1 hgr hsz hv2 hx hz
      go_wp2_with fail
      rw [← hW3]
      refine (dropFn (z := sl) _ HBX3.out).mono ?_
      rintro e w5 ⟨rfl, hb5⟩
      have HRG5 := hid (HRG3.out.kept (grown_ofB hb5) (by simp) (by simp))
      have HG5 : Hid (w.grownBy w5 (some m)) := HG1.out.andThen (grown_ofB (bt' HB3.out hb5)) (fun j hj => by cases hj)
      clear hb5 hen
      by_cases hp : sl < s
      · have hpd : decide (sl < s) = true := decide_eq_true hp
        have HST := hid (Fk_struck (pd := fun k _ => belowK s k) HAP.out (Tryz.keyedIntL.key (Tryz.keyIntL HZ.out)) HLF.out (d := _) (by show decide (sl < s) = true; exact hpd) HAT.out)
        clear hp
        go_wp2_with (first | (at_delete; refine wpList_delete_ranges _ rfl _ _ 57 3 rfl 73 Tryz.keyedIntL Tryz.underlying57 valR m r n _ _ _ rfl HRG5.out _ _ rfl (Tryz.keyIntL HZ.out) ?_; intro w6 cnt6 hrg6 hle hturn; go_frame) | fail)
        rw [strike_twice, HST.out] at hrg6
        have HRG6 := hid hrg6
        have HLE := hid hle
        have HG6 : Hid (w.grownBy w6 (some m)) := HG5.out.andThen hturn.grown (fun j hj => by cases hj; exact .inr rfl)
        clear hrg6 hle hturn
        go_roundw
        case rel => exact ⟨_, cnt6, HRG6.out, HG6.out⟩
        case measure => rw [HRG6.out.left_eq, HI.out.1.left_eq]; exact Nat.lt_of_le_of_lt HLE.out HLT.out
      · have hpd : decide (sl < s) = false := decide_eq_false hp
        have HST := hid (Fk_stays (pd := fun k _ => belowK s k) HAP.out (Tryz.keyedIntL.key (Tryz.keyIntL HZ.out)) HLF.out (d := _) (by show decide (sl < s) = false; exact hpd) HAT.out)
        clear hp
        go_wp2
        go_roundw
        case rel => exact ⟨_, cnt1, by rw [← HST.out]; exact HRG5.out, HG5.out⟩
        case measure => rw [HRG5.out.left_eq, HI.out.1.left_eq]; exact HLT.out
end Go.Proofs.YtfmnbehopdmahaaGreat
/-
  Package acceptor: Drop.
-/
namespace Go.Proofs.YtfmnbehopdmahaaGreat
open Go.RowKit Go.Maps Go.WideElems

theorem keys_int {w : World} {m n : Nat} {D : DataW Value} (h : w.ownsMap Tryz.prog 3 valR m n D) : ∃ es, D = .map es ∧ es.Pairwise (fun p q => p.1 ≠ q.1) ∧ ∀ p ∈ es, ∃ z, I64 z ∧ p.1 = .int .i64 z := by
  obtain ⟨es, hD0, hap, _⟩ := h.entries Tryz.keyedIntL
  refine ⟨es, hD0, hap, fun p hp => ?_⟩
  obtain ⟨es', clock, _, F, _, hD⟩ := h
  rw [hD0] at hD
  injection hD with hD
  rw [hD] at hp
  obtain ⟨x, hx, rfl⟩ := List.mem_map.1 (mem_sorted.1 hp)
  obtain ⟨y, hy⟩ := F.reads x hx
  rw [rg_of hy]
  obtain ⟨z, _, e, hi⟩ := keyIntL_inv (rd_key hy)
  exact ⟨z, hi, e⟩
def zOf : Lit → Int
  | .int _ z => z
  | _ => 0
theorem drop_count {w : World} {m : Nat} {S : Int → Option VoM} {D : DataW Value} {a : Ac} (hg : AcOk a) (h : VoMap w m S a.ks.length D) (hS : ∀ t, (S t).map VoM.vt = a.f t) (s : Int) : Maps.size (Lib.deleteFuncD (fun k _ => belowK s k) D) = (dropA a s).ks.length := by
  obtain ⟨es, rfl, hap, hk⟩ := keys_int h.map
  have hlook : ∀ z, I64 z → look (.map es) (.int .i64 z) = (S z).map VoM.val := h.key
  have hsome : ∀ z, (S z).isSome = (a.f z).isSome := fun z => by rw [← hS z]; simp
  have hnd : (es.map (fun p => zOf p.1)).Nodup := by
    rw [List.nodup_iff_pairwise_ne, List.pairwise_map]
    refine List.Pairwise.imp_of_mem (fun {p q} hp hq hne e => hne ?_) hap
    obtain ⟨z1, _, e1⟩ := hk p hp
    obtain ⟨z2, _, e2⟩ := hk q hq
    rw [e1, e2] at e ⊢
    simp only [zOf] at e
    rw [e]
  have hmem : ∀ z, z ∈ es.map (fun p => zOf p.1) ↔ z ∈ a.ks := fun z => by
    rw [hg.has z, ← hsome z]
    constructor
    · intro hz
      obtain ⟨p, hp, rfl⟩ := List.mem_map.1 hz
      obtain ⟨z1, hi, e1⟩ := hk p hp
      rw [e1]
      show (S z1).isSome = true
      have h1 := hlook z1 hi
      obtain ⟨v, hv⟩ : ∃ v, p.2 = .held v := by
        obtain ⟨es2, e2, hh⟩ := allHeld_of h.map
        cases e2
        exact hh p hp
      have h2 : look (.map es) (.int .i64 z1) = some v := look_at (fun zd => by rw [← hv, ← e1]; exact WideAt.atKey_mem zd (by rw [e1]; trivial) hap hp)
      rw [h2] at h1
      cases hs : S z1 with
      | none => rw [hs] at h1; simp at h1
      | some y => rfl
    · intro hz
      have hzk : z ∈ a.ks := (hg.has z).2 (by rw [← hsome z]; exact hz)
      have hi : I64 z := by have := hg.slot z hzk; unfold I64; omega
      have h1 := hlook z hi
      cases hs : S z with
      | none => rw [hs] at hz; cases hz
      | some y =>
        rw [hs] at h1
        have h2 := at_of_look h1 .nil
        simp only [DataW.atKey] at h2
        cases hf : es.find? (fun p => p.1.sameKey (.int .i64 z)) with
        | none => rw [hf] at h2; cases h2
        | some p =>
          have h3 := List.find?_some hf
          have h4 := WideAt.sameKey_eq h3
          exact List.mem_map.2 ⟨p, List.mem_of_find?_eq_some hf, by rw [h4]; rfl⟩
  have hnk : a.ks.Nodup := by
    rw [List.nodup_iff_pairwise_ne]
    exact hg.rise.imp (fun h => by omega)
  have hperm := (List.perm_ext_iff_of_nodup hnd hnk).2 hmem
  have hl := (hperm.filter (fun t => decide (s ≤ t))).length_eq
  show (es.filter (fun p => !belowK s p.1)).length = (a.ks.filter (fun t => decide (s ≤ t))).length
  rw [← hl, List.filter_map, List.length_map]
  congr 1
  refine List.filter_congr (fun p hp => ?_)
  obtain ⟨z, _, e⟩ := hk p hp
  show (!belowK s p.1) = decide (s ≤ zOf p.1)
  rw [e]
  show (!decide (z < s)) = decide (s ≤ z)
  by_cases h1 : z < s
  · simp [h1]
  · simp [h1]; omega
theorem VoMap.drop {w w' : World} {m : Nat} {S : Int → Option VoM} {D : DataW Value} {a : Ac} (hg : AcOk a) (h : VoMap w m S a.ks.length D) (hS : ∀ t, (S t).map VoM.vt = a.f t) (s : Int) (hown : w'.ownsMap Tryz.prog 3 valR m a.ks.length (Lib.deleteFuncD (fun k _ => belowK s k) D)) (ht : Turns (fun i => i = m) w w') :
    VoMap w' m (fun t => if t < s then none else S t) (dropA a s).ks.length (Lib.deleteFuncD (fun k _ => belowK s k) D) := by
  have hc := drop_count hg h hS s
  have hni := noNum_map h.map
  refine ⟨?_, fun t ht2 => ?_, fun t x hx => ?_, hc⟩
  · obtain ⟨es, clock, h1, h2, hs', hD⟩ := hown
    refine ⟨es, clock, h1, h2, ?_, hD⟩
    rw [← hc, hD]
    have e1 : Maps.size (DataW.map ((es.toList.map (Go.WideElems.rg Tryz.prog 3 valR)).foldr DataW.insert [])) = es.size := by simp [Maps.size, length_sorted]
    rw [e1]
    exact Nat.le_refl _
  · obtain ⟨es, rfl, _, _⟩ := keys_int h.map
    rw [look_dropV]
    show (if decide (t < s) = true then none else _) = _
    by_cases e : t < s
    · simp [e]
    · simp [e]
      exact h.key t ht2
  · split at hx
    · cases hx
    · exact ⟨(h.ok t x hx).1.turned hni ht, (h.ok t x hx).2⟩
set_option maxRecDepth 100000 in
set_option maxHeartbeats 1000000 in
theorem AcAt.drop {w : World} {p m : Nat} {a : Ac} (h : AcAt w p m a) (s : Int) : Calls Tryz.prog 13 #[.pointer (some ⟨p, 0, none⟩), .int .i64 s] w fun e w' => e = .returned (.tuple #[]) ∧ AcAt w' p m (dropA a s) ∧ Turns (fun i => i = m) w w' := by
  obtain ⟨W, hW⟩ : ∃ W, W = w.alloc (.cells #[.int .i64 s] 3) := ⟨_, rfl⟩
  have HB : Hid (Below w.heap.size w W) := by rw [hW]; exact (Below.refl _ _).alloc (Nat.le_refl _) _
  have HBX : Hid (Blk W w.heap.size 3 [.int .i64 s]) := by rw [hW]; exact Blk.new w _ _
  have H := hid (h.below HB.out)
  have HCL := hid H.out.closed
  obtain ⟨S, D, hEM, hS⟩ := H.out.map
  have HEM := hid hEM
  have HS := hid hS
  have HDL := hid (deleteVo hEM HBX.out)
  have HW := hid hW
  have c3 := H.out.cells.2.2.2
  rw [hW] at c3
  clear h hW hEM hS
  go_enter Tryz.func13, Tryz.ntmps13
  go_wp2_with fail
  rw [← HW.out]
  refine HCL.out.mono ?_
  rintro e w1 ⟨rfl, rfl⟩
  rw [← HW.out] at c3
  go_wp2_with fail
  refine HDL.out.mono ?_
  rintro e w2 ⟨rfl, hown, hgr⟩
  have ht : Turns (fun i => i = m) w1 w2 := Turns.of_grown (F := fun i => i = m) hgr (fun k hk => by cases hk; rfl)
  have hpm : p ≠ m := H.out.pne
  have HF : Hid (AcAt w2 p m (dropA a s)) := by
    refine ⟨dropA_ok H.out.ok s, ht.blk H.out.blk hpm, _, _, HEM.out.drop H.out.ok HS.out s hown ht, fun t => ?_⟩
    show (if t < s then none else S t).map VoM.vt = if t < s then none else a.f t
    split
    · rfl
    · exact HS.out t
  have HT : Hid (Turns (fun i => i = m) w w2) := (Turns.of_below (F := fun i => i = m) HB.out (Nat.le_refl _)).trans ht (fun i hi => .inl hi)
  clear hown hgr ht
  go_wp2
  go_end0
  exact ⟨rfl, HF.out, HT.out⟩
end Go.Proofs.YtfmnbehopdmahaaGreat
/-
  The program's acceptor and the document's, side by side.
-/
namespace Go.Proofs.YtfmnbehopdmahaaGreat
open Go.RowKit Go.Maps

theorem ra_rowblk {w : World} {B x : Nat} {nd : Int} {pr : Int × Int} {xs : List VoM} {eo : Option Addr} {cap : Nat} (h : RaAt w B x nd pr xs eo cap) : ∀ g off, eo = some ⟨g, off, none⟩ → B ≤ g ∧ ∃ cs, Blk w g 73 cs := by
  intro g off e
  subst e
  rcases h.row.2 with ⟨h0, _⟩ | ⟨g', cap', cur, he, hg, hgg, _⟩
  · cases h0
  · cases he
    exact ⟨hg, cur.toList, hgg⟩
section
variable {B : Nat} {w w' : World} {p m x : Nat} {a a' : Ac} {xs : List VoM} {ro : Option Addr} {rc : Nat}
theorem AcIn.apart (h : AcIn B w p m a) (k : RaIn B w x a' xs ro rc) : (∀ i, FootA p m i → ¬ FootR x ro i) ∧ NoNum w (FootR x ro) := by
  obtain ⟨S, D, h1, _⟩ := h.at'.map
  refine ⟨fun i hi hf => ?_, fun i hf cs hc => ?_⟩
  · rcases hf with hf | ⟨off, hf⟩
    · subst hf
      rcases hi with hi | hi
      · exact blk_neH h.at'.blk k.ra.blk (by decide) hi.symm
      · exact k.ra.blk.not_map h1.map hi
    · obtain ⟨_, cs, hc⟩ := ra_rowblk k.ra i off hf
      rcases hi with hi | hi
      · exact blk_neH h.at'.blk hc (by decide) hi.symm
      · exact hc.not_map h1.map hi
  · rcases hf with hf | ⟨off, hf⟩
    · subst hf
      exact blk_neH k.ra.blk hc (by decide) rfl
    · obtain ⟨_, cs', hc'⟩ := ra_rowblk k.ra i off hf
      exact blk_neH hc' hc (by decide) rfl
theorem AcIn.byRa (h : AcIn B w p m a) (k : RaIn B w x a' xs ro rc) (ht : Turns (FootR x ro) w w') : AcIn B w' p m a := h.other ht (h.apart k).1 (h.apart k).2
theorem RaIn.byAc (k : RaIn B w x a' xs ro rc) (h : AcIn B w p m a) (ht : Turns (FootA p m) w w') : RaIn B w' x a' xs ro rc :=
  k.turned ht (fun i hi => h.foot i hi) h.at'.noNum (fun hf => (h.apart k).1 x hf (.inl rfl)) (fun g off e hf => (h.apart k).1 g hf (.inr ⟨off, e⟩))
theorem AcIn.fork2 (h : AcIn B w p m a) (hB : B ≤ w.heap.size) : Calls Tryz.prog 12 #[.pointer (some ⟨p, 0, none⟩)] w fun e w' => ∃ p' m', e = .returned (.pointer (some ⟨p', 0, none⟩)) ∧ AcIn B w' p m a ∧ AcIn B w' p' m' a ∧ (∀ i, FootA p' m' i → ¬ FootA p m i) ∧ Below w.heap.size w w' := by
  refine h.at'.fork.mono ?_
  rintro e w' ⟨p', m', rfl, h1, h2, h3, h4⟩
  refine ⟨p', m', rfl, h.below h2, ⟨h1, Nat.le_trans hB h3, Nat.le_trans hB h4⟩, fun i hi hf => ?_, h2⟩
  have h5 := h.at'.lt i hf
  rcases hi with hi | hi <;> omega
theorem AcIn.drop2 (h : AcIn B w p m a) (s : Int) : Calls Tryz.prog 13 #[.pointer (some ⟨p, 0, none⟩), .int .i64 s] w fun e w' => e = .returned (.tuple #[]) ∧ AcIn B w' p m (dropA a s) ∧ Turns (FootA p m) w w' := by
  refine (h.at'.drop s).mono ?_
  rintro e w' ⟨rfl, h1, h2⟩
  exact ⟨rfl, ⟨h1, h.bp, h.bm⟩, h2.mono (fun i hi => .inr hi)⟩
end
/-- A slice of votes that an answer tells. -/
def VL (w w' : World) (vo : Option Addr) (N : Nat) (L : List (Int × Vt)) : Prop := ∃ ys, ys.length = N ∧ N ≤ 4096 ∧ ys.map VoM.sv = L ∧ HeldVI w' vo ys ∧ ∀ b off, vo = some ⟨b, off, none⟩ → w.heap.size ≤ b
def VR (w' : World) (vo : Option Addr) (N : Nat) (L : List (Int × Vt)) : Prop := ∃ ys, ys.length = N ∧ N ≤ 4096 ∧ ys.map VoM.sv = L ∧ HeldVo w' vo ys
theorem VL.vr {w w' : World} {vo : Option Addr} {N : Nat} {L : List (Int × Vt)} (h : VL w w' vo N L) : VR w' vo N L := by
  obtain ⟨ys, h1, h2, h3, h4, _⟩ := h
  exact ⟨ys, h1, h2, h3, h4.held⟩
theorem VR.below {w w' : World} {vo : Option Addr} {N : Nat} {L : List (Int × Vt)} (h : VR w vo N L) (hb : Below w.heap.size w w') : VR w' vo N L := by
  obtain ⟨ys, h1, h2, h3, h4⟩ := h
  exact ⟨ys, h1, h2, h3, h4.below hb⟩
theorem VL.below {w w' w'' : World} {vo : Option Addr} {N : Nat} {L : List (Int × Vt)} (h : VL w w' vo N L) (hb : Below w'.heap.size w' w'') : VL w w'' vo N L := by
  obtain ⟨ys, h1, h2, h3, h4, h5⟩ := h
  exact ⟨ys, h1, h2, h3, h4.below hb, h5⟩
/-- The document's call behind it leaves it. -/
theorem VL.byRa {B : Nat} {w0 w w' : World} {x : Nat} {a' : Ac} {xs : List VoM} {ro : Option Addr} {rc : Nat} {vo : Option Addr} {N : Nat} {L : List (Int × Vt)} (h : VL w0 w vo N L) {p m : Nat} {a : Ac} (hA : AcIn B w p m a) (k : RaIn B w x a' xs ro rc) (hlt : ∀ i, FootR x ro i → i < w0.heap.size) (ht : Turns (FootR x ro) w w') : VR w' vo N L := by
  obtain ⟨ys, h1, h2, h3, h4, h5⟩ := h
  exact ⟨ys, h1, h2, h3, (h4.turned ht (hA.apart k).2 (fun b off e hf => by have := h5 b off e; have := hlt b hf; omega)).held⟩
theorem RaIn.lt {B : Nat} {w : World} {x : Nat} {a : Ac} {xs : List VoM} {ro : Option Addr} {rc : Nat} (k : RaIn B w x a xs ro rc) : ∀ i, FootR x ro i → i < w.heap.size := by
  intro i hi
  rcases hi with hi | ⟨off, hi⟩
  · rw [hi]; exact k.ra.blk.lt
  · obtain ⟨_, cs, hc⟩ := ra_rowblk k.ra i off hi
    exact hc.lt
/-- On of both: the same answer. -/
theorem on_both (a : Ac) (X : MsM) : ∃ kk nd fr r n sl np R ok b L,
    (∀ (w : World) (B p m : Nat), AcIn B w p m a → B ≤ w.heap.size → MsOk w X → MsB B X → Calls Tryz.prog 9 #[.pointer (some ⟨p, 0, none⟩), X.val] w fun e w' => ∃ vo N vc, e = .returned (.tuple #[.agg #[.int .i64 kk, .int .i64 nd, .int .i64 fr, .int .i64 r, .int .i64 n, .int .i64 sl, .bool np, .string ⟨#[]⟩, .string ⟨#[]⟩, .int .i64 0, .slice none 0 0, .slice vo N vc, .slice none 0 0, .slice none 0 0, .int .i64 0], .string R, .bool ok]) ∧ VL w w' vo N L ∧ AcIn B w' p m b ∧ Turns (FootA p m) w w') ∧
    (∀ (w : World) (B x : Nat) (xs : List VoM) (ro : Option Addr) (rc : Nat), RaIn B w x a xs ro rc → B ≤ w.heap.size → MsOk w X → MsB B X → Calls Tryz.prog 10 #[.pointer (some ⟨x, 0, none⟩), X.val] w fun e w' => ∃ vo N vc, e = .returned (.tuple #[.agg #[.int .i64 kk, .int .i64 nd, .int .i64 fr, .int .i64 r, .int .i64 n, .int .i64 sl, .bool np, .string ⟨#[]⟩, .string ⟨#[]⟩, .int .i64 0, .slice none 0 0, .slice vo N vc, .slice none 0 0, .slice none 0 0, .int .i64 0], .string R, .bool ok]) ∧ VR w' vo N L ∧ RaTo B w w' x b ro) ∧ wouldA a X = R ∧ takesA a X = ok := by
  by_cases ht : takesA a X = true
  · refine ⟨kindA a X, (afterA a X).node, X.frm, (afterA a X).pr.1, (afterA a X).pr.2, X.slot, true, (if changesA a X = true then recOf X else ⟨#[]⟩), true, afterA a X, (if kindA a X = 2 then fromTo (afterA a X) X.slot (afterA a X).ks.length else []), ?_, ?_, ?_, ht⟩
    · intro w B p m h hB hx hs
      refine (h.at'.on X hx (fun b off e hne hp => by have h1 := hs b off e hne; have h2 := h.bp; omega)).mono ?_
      intro e w' hP
      unfold OnP at hP
      rw [if_pos ht] at hP
      obtain ⟨vo, vc, ys, he, hm, ⟨hv, hlo⟩, hl, hat, htu⟩ := hP
      exact ⟨vo, ys.length, vc, he, ⟨ys, rfl, hl, hm, hv, hlo⟩, ⟨hat, h.bp, h.bm⟩, htu⟩
    · intro w B x xs ro rc h hB hx hs
      refine (h.on hB X hx (fun b off e hne => .inl (hs b off e hne))).mono ?_
      intro e w' hP
      unfold OnD at hP
      rw [if_pos ht] at hP
      obtain ⟨vo, vc, ys, he, hm, hv, hl, _, hto⟩ := hP
      exact ⟨vo, ys.length, vc, he, ⟨ys, rfl, hl, hm, hv⟩, hto⟩
    · unfold wouldA
      rw [if_pos ht]
  · have hf : takesA a X = false := by simpa using ht
    refine ⟨0, 0, 0, 0, 0, 0, false, ⟨#[]⟩, false, a, [], ?_, ?_, ?_, hf⟩
    · intro w B p m h hB hx hs
      refine (h.at'.on X hx (fun b off e hne hp => by have h1 := hs b off e hne; have h2 := h.bp; omega)).mono ?_
      intro e w' hP
      unfold OnP at hP
      rw [if_neg ht] at hP
      obtain ⟨he, hat, hb⟩ := hP
      exact ⟨none, 0, 0, he, ⟨[], rfl, Nat.zero_le _, rfl, ⟨⟨fun y hy => (by cases hy), .inl rfl⟩, fun y hy => (by cases hy)⟩, fun b off e => (by cases e)⟩, ⟨hat, h.bp, h.bm⟩, Turns.of_below hb (Nat.le_refl _)⟩
    · intro w B x xs ro rc h hB hx hs
      refine (h.on hB X hx (fun b off e hne => .inl (hs b off e hne))).mono ?_
      intro e w' hP
      unfold OnD at hP
      rw [if_neg ht] at hP
      exact ⟨none, 0, 0, hP.1, ⟨[], rfl, Nat.zero_le _, rfl, ⟨fun y hy => (by cases hy), .inl rfl⟩⟩, hP.2⟩
    · unfold wouldA
      rw [if_neg ht]
end Go.Proofs.YtfmnbehopdmahaaGreat
/-
  SameVoted of lists of votes that are the same.
-/
namespace Go.Proofs.YtfmnbehopdmahaaGreat
open Go.RowKit Go.Shelf Go.Maps

theorem sv_parts {x y : VoM} (h : x.sv = y.sv) : ∃ sl r n e ao1 c1 ao2 c2, x = ⟨sl, (r, n), ⟨e, ao1, c1⟩⟩ ∧ y = ⟨sl, (r, n), ⟨e, ao2, c2⟩⟩ := by
  obtain ⟨s1, ⟨r1, n1⟩, e1, ao1, c1⟩ := x
  obtain ⟨s2, ⟨r2, n2⟩, e2, ao2, c2⟩ := y
  simp only [VoM.sv, VoM.vt, Prod.mk.injEq] at h
  obtain ⟨rfl, ⟨rfl, rfl⟩, rfl⟩ := h
  exact ⟨_, _, _, _, _, _, _, _, rfl, rfl⟩
set_option maxRecDepth 1000000 in
set_option maxHeartbeats 4000000 in
theorem sameVos_B (w : World) (ao bo : Option Addr) (ca cb : Nat) (xs ys : List VoM) (N : Nat) (hn : xs.length = N) (hx : HeldVo w ao xs) (hy : HeldVo w bo ys) (he : xs.map VoM.sv = ys.map VoM.sv) (hl : N ≤ 4096) :
    Calls Tryz.prog 26 #[.slice ao N ca, .slice bo N cb] w fun e w' => e = .returned (.bool true) ∧ Below w.heap.size w w' := by
  have HN := hid hn
  have HM : Hid (ys.length = N) := by have := congrArg List.length he; simp at this; exact hid (by omega)
  have HX := hid hx
  have HY := hid hy
  have HE := hid he
  clear hn hx hy he
  go_enter Tryz.func26, Tryz.ntmps26
  go_wp2
  go_loopw [5] (fun x wr => ∃ i : Nat, i ≤ N ∧ x = .int .i64 i ∧ Hid (Below w.heap.size w wr)) (fun x _ => N - (intOf x).toNat)
  case atStart => exact ⟨0, Nat.zero_le _, rfl, Below.refl _ _⟩
  case round =>
    obtain ⟨i, hi, rfl, HB⟩ := hrel
    by_cases hlt : i < N
    · have hlt' : (i : Int) < (N : Int) := by omega
      have hix : Hid (i < xs.length) := (by rw [HN.out]; exact hlt : i < xs.length)
      have hiy : Hid (i < ys.length) := (by rw [HM.out]; exact hlt : i < ys.length)
      have HIM : Hid (i + 1 ≤ N) := (by omega : i + 1 ≤ N)
      obtain ⟨g1, f1, hao, hg1, e1⟩ := (HX.out.below HB.out).at hix.out
      obtain ⟨g2, f2, hbo, hg2, e2⟩ := (HY.out.below HB.out).at hiy.out
      subst hao hbo
      have HL1 := hid hg1
      have HL2 := hid hg2
      clear hg1 hg2
      have HOX := hid ((HX.out.1 _ (List.getElem_mem hix.out)).below HB.out)
      have HOY := hid ((HY.out.1 _ (List.getElem_mem hiy.out)).below HB.out)
      have hsv : (xs[i]'hix.out).sv = (ys[i]'hiy.out).sv := by
        have h1 : (xs.map VoM.sv)[i]? = (ys.map VoM.sv)[i]? := by rw [HE.out]
        rw [List.getElem?_map, List.getElem?_map, List.getElem?_eq_getElem hix.out, List.getElem?_eq_getElem hiy.out] at h1
        exact Option.some.inj h1
      obtain ⟨sl, r, n, ⟨np, tk, ct, ep, dp⟩, ao1, cap1, ao2, cap2, hX, hY⟩ := sv_parts hsv
      rw [hX] at e1 HOX
      rw [hY] at e2 HOY
      simp only [VoM.cells] at e1 e2
      obtain ⟨XN, HXN⟩ : ∃ m, Hid (dp.length = m) := ⟨_, hid rfl⟩
      rw [HXN.out] at e1 e2
      have HSE : Hid (∀ V, ScL wr V → Calls Tryz.prog 25 #[.agg #[.bool np, .string tk, .string ct, .int .i64 ep, .slice ao1 XN cap1], .agg #[.bool np, .string tk, .string ct, .int .i64 ep, .slice ao2 XN cap2]] V fun e w' => e = .returned (.bool true) ∧ ScL wr w') := fun V hV => by
        have h1 := sameEntry_B V ⟨np, tk, ct, ep, dp⟩ ao1 ao2 cap1 cap2 (HOX.out.en.cut.below hV.out) (HOY.out.en.cut.below hV.out)
        simp only [EnM.val] at h1
        rw [HXN.out] at h1
        exact h1.mono fun e w' ⟨h2, h3⟩ => ⟨h2, hV.go h3⟩
      have HSA : Hid (∀ V, ScL wr V → (ScL wr V ∧ V.cell? ⟨g1, f1 + i * 8, none⟩ = some (.int .i64 sl) ∧ V.cell? ⟨g1, f1 + i * 8 + 1, none⟩ = some (.int .i64 r) ∧ V.cell? ⟨g1, f1 + i * 8 + 2, none⟩ = some (.int .i64 n) ∧ V.cell? ⟨g1, f1 + i * 8 + 3, none⟩ = some (.bool np) ∧ V.cell? ⟨g1, f1 + i * 8 + 4, none⟩ = some (.string tk) ∧ V.cell? ⟨g1, f1 + i * 8 + 5, none⟩ = some (.string ct) ∧ V.cell? ⟨g1, f1 + i * 8 + 6, none⟩ = some (.int .i64 ep) ∧ V.cell? ⟨g1, f1 + i * 8 + 7, none⟩ = some (.slice ao1 XN cap1) ∧ V.cell? ⟨g2, f2 + i * 8, none⟩ = some (.int .i64 sl) ∧ V.cell? ⟨g2, f2 + i * 8 + 1, none⟩ = some (.int .i64 r) ∧ V.cell? ⟨g2, f2 + i * 8 + 2, none⟩ = some (.int .i64 n) ∧ V.cell? ⟨g2, f2 + i * 8 + 3, none⟩ = some (.bool np) ∧ V.cell? ⟨g2, f2 + i * 8 + 4, none⟩ = some (.string tk) ∧ V.cell? ⟨g2, f2 + i * 8 + 5, none⟩ = some (.string ct) ∧ V.cell? ⟨g2, f2 + i * 8 + 6, none⟩ = some (.int .i64 ep) ∧ V.cell? ⟨g2, f2 + i * 8 + 7, none⟩ = some (.slice ao2 XN cap2))) := fun V hV => ⟨hV, (hV.out.cell (p := ⟨g1, _, none⟩) HL1.out).trans (e1 0 _ rfl), (hV.out.cell (p := ⟨g1, _, none⟩) HL1.out).trans (e1 1 _ rfl), (hV.out.cell (p := ⟨g1, _, none⟩) HL1.out).trans (e1 2 _ rfl), (hV.out.cell (p := ⟨g1, _, none⟩) HL1.out).trans (e1 3 _ rfl), (hV.out.cell (p := ⟨g1, _, none⟩) HL1.out).trans (e1 4 _ rfl), (hV.out.cell (p := ⟨g1, _, none⟩) HL1.out).trans (e1 5 _ rfl), (hV.out.cell (p := ⟨g1, _, none⟩) HL1.out).trans (e1 6 _ rfl), (hV.out.cell (p := ⟨g1, _, none⟩) HL1.out).trans (e1 7 _ rfl), (hV.out.cell (p := ⟨g2, _, none⟩) HL2.out).trans (e2 0 _ rfl), (hV.out.cell (p := ⟨g2, _, none⟩) HL2.out).trans (e2 1 _ rfl), (hV.out.cell (p := ⟨g2, _, none⟩) HL2.out).trans (e2 2 _ rfl), (hV.out.cell (p := ⟨g2, _, none⟩) HL2.out).trans (e2 3 _ rfl), (hV.out.cell (p := ⟨g2, _, none⟩) HL2.out).trans (e2 4 _ rfl), (hV.out.cell (p := ⟨g2, _, none⟩) HL2.out).trans (e2 5 _ rfl), (hV.out.cell (p := ⟨g2, _, none⟩) HL2.out).trans (e2 6 _ rfl), (hV.out.cell (p := ⟨g2, _, none⟩) HL2.out).trans (e2 7 _ rfl)⟩
      clear e1 e2 hX hY hsv HOX HOY
      have hsc0 := ScL.start wr
      go_wp2
      go_region_held3 (fun V => ScL wr V ∧ V.cell? ⟨g1, f1 + i * 8, none⟩ = some (.int .i64 sl) ∧ V.cell? ⟨g1, f1 + i * 8 + 1, none⟩ = some (.int .i64 r) ∧ V.cell? ⟨g1, f1 + i * 8 + 2, none⟩ = some (.int .i64 n) ∧ V.cell? ⟨g1, f1 + i * 8 + 3, none⟩ = some (.bool np) ∧ V.cell? ⟨g1, f1 + i * 8 + 4, none⟩ = some (.string tk) ∧ V.cell? ⟨g1, f1 + i * 8 + 5, none⟩ = some (.string ct) ∧ V.cell? ⟨g1, f1 + i * 8 + 6, none⟩ = some (.int .i64 ep) ∧ V.cell? ⟨g1, f1 + i * 8 + 7, none⟩ = some (.slice ao1 XN cap1) ∧ V.cell? ⟨g2, f2 + i * 8, none⟩ = some (.int .i64 sl) ∧ V.cell? ⟨g2, f2 + i * 8 + 1, none⟩ = some (.int .i64 r) ∧ V.cell? ⟨g2, f2 + i * 8 + 2, none⟩ = some (.int .i64 n) ∧ V.cell? ⟨g2, f2 + i * 8 + 3, none⟩ = some (.bool np) ∧ V.cell? ⟨g2, f2 + i * 8 + 4, none⟩ = some (.string tk) ∧ V.cell? ⟨g2, f2 + i * 8 + 5, none⟩ = some (.string ct) ∧ V.cell? ⟨g2, f2 + i * 8 + 6, none⟩ = some (.int .i64 ep) ∧ V.cell? ⟨g2, f2 + i * 8 + 7, none⟩ = some (.slice ao2 XN cap2))
        (first | (refine HSA.out _ ?_; (repeat (first | with_reducible assumption | with_reducible exact ScL.start _ | with_reducible apply ScL.dr)); done))
        ((go_at_call 25; with_reducible refine (HSE.out _ (by (repeat (first | assumption | exact ScL.start _ | apply ScL.dr)))).mono ?_; rintro e w5 ⟨rfl, hs5⟩; have HS5 := hid hs5))
      all_goals
        go_wp2
        go_roundw
        case rel => exact ⟨i + 1, HIM.out, by go_num, bt' HB.out HS5.out.out⟩
        case measure => simp [intOf]; have := HIM.out; omega
    · have hlt' : ¬ (i : Int) < (N : Int) := by omega
      go_wp2
      go_ret
      exact ⟨rfl, HB.out⟩
end Go.Proofs.YtfmnbehopdmahaaGreat
/-
  pannierlaw16.same of the program's acceptor and the document's.
-/
namespace Go.Proofs.YtfmnbehopdmahaaGreat
open Go.RowKit Go.Maps

theorem AcIn.promD {B : Nat} {w : World} {p m : Nat} {a : Ac} {r n : Int} (h : AcIn B w p m a) (hp : a.pr = (r, n)) : Calls Tryz.prog 33 #[.pointer (some ⟨p, 0, none⟩)] w fun e w' => e = .returned (.agg #[.int .i64 r, .int .i64 n]) ∧ Below w.heap.size w w' := by
  have h1 := h.at'.promised
  unfold PromP at h1
  rw [hp] at h1
  exact h1
theorem AcIn.votsD {B : Nat} {w : World} {p m : Nat} {a : Ac} {N : Nat} (h : AcIn B w p m a) (hN : a.ks.length = N) : Calls Tryz.prog 18 #[.pointer (some ⟨p, 0, none⟩)] w fun e w' => ∃ vo vc, e = .returned (.slice vo N vc) ∧ Hid (VR w' vo N (fromTo a 0 a.ks.length)) ∧ Below w.heap.size w w' := by
  refine h.at'.votes.mono ?_
  rintro e w' ⟨vo, vc, ys, rfl, h1, h2, h3, _, h4⟩
  have hl : ys.length = N := by
    rw [fromTo_all h.at'.ok] at h1
    have := congrArg List.length h1
    simpa [hN] using this
  rw [hl]
  exact ⟨vo, vc, rfl, ⟨ys, hl, by rw [← hl]; exact h3, h1, h2.held⟩, h4⟩
theorem lt_of_cell {w : World} {b o : Nat} {v : Value} (h : w.cell? ⟨b, o, none⟩ = some v) : b < w.heap.size := by
  obtain ⟨b', off', e, hlt⟩ := plain_addr (w := w) (a := ⟨b, o, none⟩) (v := v) (by rw [Addr.add_lit]; exact h)
  cases e
  exact hlt
/-- What the document's acceptor has, told. -/
theorem RaIn.vr {B : Nat} {w : World} {x : Nat} {a : Ac} {xs : List VoM} {ro : Option Addr} {rc : Nat} (k : RaIn B w x a xs ro rc) : VR w ro xs.length (fromTo a 0 a.ks.length) := by
  refine ⟨xs, rfl, k.ra.few, ?_, k.ra.held⟩
  rw [← k.tw.above 0]
  unfold aboveV
  rw [List.take_length, List.filter_eq_self.2]
  intro y hy
  have h1 : y.slot ∈ a.ks := by rw [← k.tw.ns]; exact List.mem_map.2 ⟨y, hy, rfl⟩
  exact decide_eq_true (k.gok.slot _ h1).1
theorem same_vr {w : World} {ao bo : Option Addr} {N ca cb : Nat} {L : List (Int × Vt)} (h1 : VR w ao N L) (h2 : VR w bo N L) : Calls Tryz.prog 26 #[.slice ao N ca, .slice bo N cb] w fun e w' => e = .returned (.bool true) ∧ Below w.heap.size w w' := by
  obtain ⟨ys, e1, k1, l1, n1⟩ := h1
  obtain ⟨zs, e2, k2, l2, n2⟩ := h2
  exact sameVos_B w ao bo ca cb ys zs N e1 n1 n2 (l1.trans l2.symm) k1
theorem same_vr2 {w w6 : World} {ao bo : Option Addr} {N ca cb : Nat} {L : List (Int × Vt)} (h1 : VR w6 ao N L) (h2 : ∀ V, ScL w V → VR V bo N L) (hs : ScL w w6) : ∀ V, ScL w6 V → Calls Tryz.prog 26 #[.slice ao N ca, .slice bo N cb] V fun e w' => e = .returned (.bool true) ∧ ScL w w' := fun V hV =>
  (same_vr (h1.below hV.out) (h2 V (hs.go hV.out))).mono (fun _ _ (hh : _ ∧ _) => And.intro hh.1 ((hs.go hV.out).go hh.2))
set_option maxRecDepth 1000000 in
set_option maxHeartbeats 4000000 in
theorem AcIn.same {B : Nat} {w : World} {p m x : Nat} {a : Ac} {xs : List VoM} {ro : Option Addr} {rc : Nat} (h : AcIn B w p m a) (k : RaIn B w x a xs ro rc) : Calls Tryz.prog 15 #[.pointer (some ⟨p, 0, none⟩), .pointer (some ⟨x, 0, none⟩)] w fun e w' => e = .returned (.bool true) ∧ Below w.heap.size w w' := by
  obtain ⟨r, n, hpr⟩ : ∃ r n, a.pr = (r, n) := ⟨_, _, rfl⟩
  obtain ⟨N, HN⟩ : ∃ N, Hid (a.ks.length = N) := ⟨_, hid rfl⟩
  have HXN : Hid (xs.length = N) := by rw [← HN.out]; exact k.tw.len
  have HPR : Hid (∀ V, ScL w V → Calls Tryz.prog 33 #[.pointer (some ⟨p, 0, none⟩)] V fun e w' => e = .returned (.agg #[.int .i64 r, .int .i64 n]) ∧ ScL w w') := fun V hV => ((h.below hV.out).promD hpr).mono (fun e w' (hh : _ ∧ _) => And.intro hh.1 (hV.go hh.2))
  have HVO : Hid (∀ V, ScL w V → Calls Tryz.prog 18 #[.pointer (some ⟨p, 0, none⟩)] V fun e w' => ∃ vo vc, e = .returned (.slice vo N vc) ∧ Hid (VR w' vo N (fromTo a 0 a.ks.length)) ∧ ScL w w') := fun V hV => by
    refine ((h.below hV.out).votsD HN.out).mono ?_
    rintro e w' ⟨vo, vc, rfl, h1, h2⟩
    exact ⟨vo, vc, rfl, h1, hV.go h2⟩
  have HVR : Hid (∀ V, ScL w V → VR V ro N (fromTo a 0 a.ks.length)) := fun V hV => by
    have h1 := k.vr.below hV.out
    rw [HXN.out] at h1
    exact h1
  have HSA : Hid (∀ V, ScL w V → (ScL w V ∧ V.cell? ⟨x, 1, none⟩ = some (.int .i64 r) ∧ V.cell? ⟨x, 2, none⟩ = some (.int .i64 n) ∧ V.cell? ⟨x, 3, none⟩ = some (.slice ro N rc))) := fun V hV => by
    have h1 := (k.ra.below hV.out).blk
    rw [hpr, HXN.out] at h1
    exact ⟨hV, h1.cell rfl, h1.cell rfl, h1.cell rfl⟩
  clear h k hpr
  go_enter Tryz.func15, Tryz.ntmps15
  go_wp2
  go_region_held3 (fun V => ScL w V ∧ V.cell? ⟨x, 1, none⟩ = some (.int .i64 r) ∧ V.cell? ⟨x, 2, none⟩ = some (.int .i64 n) ∧ V.cell? ⟨x, 3, none⟩ = some (.slice ro N rc))
    (first | (refine HSA.out _ ?_; (repeat (first | with_reducible assumption | with_reducible exact ScL.start _ | with_reducible apply ScL.dr)); done))
    (first
      | (go_at_call 33; with_reducible refine (HPR.out _ (by (repeat (first | assumption | exact ScL.start _ | apply ScL.dr)))).mono ?_; rintro e w5 ⟨rfl, hs5⟩)
      | (go_at_call 26; with_reducible refine (HSV6.out _ (by (repeat (first | assumption | exact ScL.start _ | apply ScL.dr)))).mono ?_; rintro e w7 ⟨rfl, hs7⟩)
      | (go_at_call 18; with_reducible refine (HVO.out _ (by (repeat (first | assumption | exact ScL.start _ | apply ScL.dr)))).mono ?_; rintro e w6 ⟨vo6, vc6, rfl, HV6, hs6⟩; have HSV6 := hid (same_vr2 (ca := vc6) (cb := rc) HV6.out HVR.out hs6)))
  all_goals
    rename_i hHeld
    have HB : Hid (Below w.heap.size w _) := hHeld.1.out
    go_wp2
    go_ret
    exact ⟨rfl, HB.out⟩
end Go.Proofs.YtfmnbehopdmahaaGreat
/-
  Replay of both acceptors: the same answer.
-/
namespace Go.Proofs.YtfmnbehopdmahaaGreat
open Go.RowKit Go.Maps

theorem repl_both (a : Ac) (rec : ByteArray) : ∃ (b : Ac) (E : Int), (∀ w p m e w', ReplP w p m a rec e w' → e = .returned (.int .i64 E) ∧ AcAt w' p m b ∧ Turns (FootA p m) w w') ∧ (∀ B w x ro e w', RplD B w x a ro rec e w' → e = .returned (.int .i64 E) ∧ RaTo B w w' x b ro) := by
  by_cases h : ∃ x : MsM, rec.size ≤ 65536 ∧ pMsg (strNums rec) = some (x.d, []) ∧ takesA a x = true ∧ kindA a x ≠ 5
  · obtain ⟨x0, h1, h2, h3, h4⟩ := h
    have hsame : ∀ y : MsM, pMsg (strNums rec) = some (y.d, []) → afterA a y = afterA a x0 := fun y hy => by
      rw [h2] at hy
      have hd : y.d = x0.d := by injection hy with hy; injection hy with hy; exact hy.symm
      exact after_d hd
    refine ⟨afterA a x0, 0, fun w p m e w' hP => ?_, fun B w x ro e w' hP => ?_⟩
    · obtain ⟨b, E, he, h5, h6, h7⟩ := hP
      rcases h7 with ⟨rfl, y, _, hy, _, _, hb⟩ | ⟨_, _, hno⟩
      · rw [hsame y hy] at hb
        subst hb
        exact ⟨he, h5, h6⟩
      · exact absurd ⟨x0, h1, h2, h3, h4⟩ hno
    · obtain ⟨b, E, he, h5, h7⟩ := hP
      rcases h7 with ⟨rfl, y, _, hy, _, _, hb⟩ | ⟨_, _, hno⟩
      · rw [hsame y hy] at hb
        subst hb
        exact ⟨he, h5⟩
      · exact absurd ⟨x0, h1, h2, h3, h4⟩ hno
  · refine ⟨a, 10, fun w p m e w' hP => ?_, fun B w x ro e w' hP => ?_⟩
    · obtain ⟨b, E, he, h5, h6, h7⟩ := hP
      rcases h7 with ⟨_, y, hs, hy, ht, hk, _⟩ | ⟨rfl, rfl, _⟩
      · exact absurd ⟨y, hs, hy, ht, hk⟩ h
      · exact ⟨he, h5, h6⟩
    · obtain ⟨b, E, he, h5, h7⟩ := hP
      rcases h7 with ⟨_, y, hs, hy, ht, hk, _⟩ | ⟨rfl, rfl, _⟩
      · exact absurd ⟨y, hs, hy, ht, hk⟩ h
      · exact ⟨he, h5⟩
/-- Replay of both, one behind the other. -/
theorem AcIn.repl {B : Nat} {w : World} {p m x : Nat} {a : Ac} {xs : List VoM} {ro : Option Addr} {rc : Nat} (h : AcIn B w p m a) (k : RaIn B w x a xs ro rc) (hB : B ≤ w.heap.size) (rec : ByteArray) (hs : rec.size ≤ maxLen) : ∃ (E : Int) (b : Ac),
    (Calls Tryz.prog 16 #[.pointer (some ⟨p, 0, none⟩), .string rec] w fun e w' => e = .returned (.int .i64 E) ∧ AcIn B w' p m b ∧ RaIn B w' x a xs ro rc ∧ Below B w w') ∧
    (∀ V, AcIn B V p m b → RaIn B V x a xs ro rc → B ≤ V.heap.size → Calls Tryz.prog 17 #[.pointer (some ⟨x, 0, none⟩), .string rec] V fun e w' => e = .returned (.int .i64 E) ∧ AcIn B w' p m b ∧ (∃ xs' ro' rc', RaIn B w' x b xs' ro' rc') ∧ Below B V w') := by
  obtain ⟨b, E, h1, h2⟩ := repl_both a rec
  refine ⟨E, b, ?_, fun V hA hR hV => ?_⟩
  · refine (h.at'.replay rec hs).mono ?_
    intro e w' hP
    obtain ⟨he, hat, ht⟩ := h1 _ _ _ _ _ hP
    exact ⟨he, ⟨hat, h.bp, h.bm⟩, k.byAc h ht, ht.below h.foot hB⟩
  · refine (hR.replay hV rec hs).mono ?_
    intro e w' hP
    obtain ⟨he, xs', ro', rc', hin, ht, _⟩ := h2 _ _ _ _ _ _ hP
    refine ⟨he, hA.byRa hR ht, ⟨xs', ro', rc', hin⟩, ht.below (fun i hi => ?_) hV⟩
    rcases hi with hi | ⟨off, hi⟩
    · rw [hi]; exact hR.ra.bx
    · exact (ra_rowblk hR.ra i off hi).1
end Go.Proofs.YtfmnbehopdmahaaGreat
/-
  What must come of every acceptor: the laws' lives.
-/
namespace Go.Proofs.YtfmnbehopdmahaaGreat
open Go.RowKit Go.Maps

/-- A message to node 1 with a Noop. -/
def mkMs (k fr : Int) (b : Int × Int) (sl : Int) : MsM := ⟨k, fr, 1, b, sl, ⟨noopEn, none, 0⟩, none, 0, [], none, 0, [], none, 0, [], 0⟩
theorem hv_noneY (w : World) : HV w none 0 [] := ⟨⟨fun x h => (by cases h), .inl rfl⟩, Nat.le_refl _, Nat.zero_le _⟩
theorem i64_0Y : I64 0 := by unfold I64; decide
theorem i64_1Y : I64 1 := by unfold I64; decide
theorem mkMs_ok (w : World) (k fr : Int) (b : Int × Int) (sl : Int) (hk : I64 k) (hf : I64 fr) (h1 : I64 b.1) (h2 : I64 b.2) (hs : I64 sl) : MsOk w (mkMs k fr b sl) :=
  ⟨⟨hv_noneY w, i64_0Y, Nat.zero_le _, Nat.zero_le _⟩, ⟨fun x h => (by cases h), .inl rfl⟩, Nat.zero_le _, hv_noneY w, ⟨fun x h => (by cases h), .inl rfl⟩, Nat.zero_le _, hk, hf, i64_1Y, h1, h2, hs, i64_0Y⟩
theorem mkMs_b (B : Nat) (k fr : Int) (b : Int × Int) (sl : Int) : MsB B (mkMs k fr b sl) := fun _ _ e _ => by cases e
def ms1 : MsM := mkMs 1 0 (2, 0) 0
def ms2 : MsM := mkMs 3 2 (1, 2) 0
def ms3 : MsM := mkMs 3 0 (2, 0) 3
def ac0 : Ac := newAc 1
def ac1 : Ac := promA ac0 (2, 0)
def ac3 : Ac := voteA ac1 3 ((2, 0), noopEn)
theorem takes_1 : takesA ac0 ms1 = true := by decide +kernel
theorem kind_1 : kindA ac0 ms1 = 2 := by decide +kernel
theorem after_1 : afterA ac0 ms1 = ac1 := by unfold afterA; rw [if_pos kind_1]; rfl
theorem rec_1 : ¬ (if changesA ac0 ms1 = true then recOf ms1 else ⟨#[]⟩ : ByteArray).toList = [] := by decide +kernel
theorem takes_2 : takesA ac1 ms2 = true := by decide +kernel
theorem kind_2 : kindA ac1 ms2 = 5 := by decide +kernel
theorem after_2 : afterA ac1 ms2 = ac1 := kind5_after kind_2
theorem rec_2 : (if changesA ac1 ms2 = true then recOf ms2 else ⟨#[]⟩) = (⟨#[]⟩ : ByteArray) := kind5_rec kind_2
theorem takes_3 : takesA ac1 ms3 = true := by decide +kernel
theorem kind_3 : kindA ac1 ms3 = 4 := by decide +kernel
theorem after_3 : afterA ac1 ms3 = ac3 := by unfold afterA; rw [if_neg (by rw [kind_3]; decide), if_pos kind_3]; rfl
theorem rec_3 : ¬ (if changesA ac1 ms3 = true then recOf ms3 else ⟨#[]⟩ : ByteArray).toList = [] := by decide +kernel
theorem votes_3 : (fromTo ac3 0 ac3.ks.length).length = 1 := by decide +kernel
set_option maxRecDepth 1000000 in
set_option maxHeartbeats 4000000 in
theorem livesAc (w : World) : Calls Tryz.prog 7 #[] w fun e w' => e = .returned (.bool true) ∧ Below w.heap.size w w' := by
  have HNEW := hid (newA_good w 1 (by omega) (by omega))
  go_enter Tryz.func7, Tryz.ntmps7
  go_wp2_with fail
  refine HNEW.out.mono ?_
  rintro e w1 ⟨p, m, rfl, hat, hb1, hp, hm⟩
  obtain ⟨W2, hW2⟩ : ∃ V, V = w1.alloc (.cells #[.bool true, .string ⟨#[]⟩, .string ⟨#[]⟩, .int .i64 0, .slice none 0 0] 39) := ⟨_, rfl⟩
  have hb2 : Below w1.heap.size w1 W2 := by rw [hW2]; exact (Below.refl _ _).alloc (Nat.le_refl _) _
  obtain ⟨be, hbe⟩ : ∃ q, q = w1.heap.size := ⟨_, rfl⟩
  have HL2 : Hid (AcIn w.heap.size W2 p m ac0) := ⟨hat.below hb2, hp, hm⟩
  have HB2 := hid (bt' hb1 hb2)
  have HK2 : Hid (Blk W2 be 39 [.bool true, .string ⟨#[]⟩, .string ⟨#[]⟩, .int .i64 0, .slice none 0 0]) := by rw [hW2, hbe]; exact Blk.new w1 _ _
  have HPF : Hid (¬ FootA p m be) := fun hf => by have := hat.lt _ hf; omega
  have HW2 := hid hW2
  have HBE := hid hbe
  obtain ⟨R1, HR1⟩ : ∃ R, Hid ((if changesA ac0 ms1 = true then recOf ms1 else ⟨#[]⟩) = R) := ⟨_, hid rfl⟩
  have hR1 : ¬ R1.toList = [] := by rw [← HR1.out]; exact rec_1
  obtain ⟨R3, HR3⟩ : ∃ R, Hid ((if changesA ac1 ms3 = true then recOf ms3 else ⟨#[]⟩) = R) := ⟨_, hid rfl⟩
  have hR3 : ¬ R3.toList = [] := by rw [← HR3.out]; exact rec_3
  have HC1 := hid (HL2.out.on_yes HB2.out.size ms1 (mkMs_ok _ _ _ _ _ (by unfold I64; decide) (by unfold I64; decide) (by unfold I64; decide) (by unfold I64; decide) (by unfold I64; decide)) (mkMs_b _ _ _ _ _) takes_1 after_1 kind_1 HR1.out (r := 2) (n := 0) (nd := 1) rfl rfl)
  simp only [ms1, mkMs, MsM.val, noopEn, List.length_nil] at HC1
  have c0 := HK2.out.cell (i := 0) rfl
  have c1 := HK2.out.cell (i := 1) rfl
  have c2 := HK2.out.cell (i := 2) rfl
  have c3 := HK2.out.cell (i := 3) rfl
  have c4 := HK2.out.cell (i := 4) rfl
  rw [HW2.out] at c0 c1 c2 c3 c4
  rw [HBE.out] at c0 c1 c2 c3 c4
  clear hat hb1 hb2 hp hm hW2 hbe HNEW
  go_wp2_with fail
  rw [← HW2.out, ← HBE.out]
  refine HC1.out.mono ?_
  rintro e v1 ⟨⟨vo1, vc1, N1, rfl⟩, hac1, ht1, hb1⟩
  obtain ⟨V1, hV1⟩ : ∃ V, V = v1.alloc (.cells #[.int .i64 2, .int .i64 1, .int .i64 0, .int .i64 2, .int .i64 0, .int .i64 0, .bool true, .string ⟨#[]⟩, .string ⟨#[]⟩, .int .i64 0, .slice none 0 0, .slice vo1 N1 vc1, .slice none 0 0, .slice none 0 0, .int .i64 0] 43) := ⟨_, rfl⟩
  have hc1 : Below v1.heap.size v1 V1 := by rw [hV1]; exact (Below.refl _ _).alloc (Nat.le_refl _) _
  obtain ⟨z1, hz1⟩ : ∃ q, q = v1.heap.size := ⟨_, rfl⟩
  have HZ1 : Hid (Blk V1 z1 43 [.int .i64 2, .int .i64 1, .int .i64 0, .int .i64 2, .int .i64 0, .int .i64 0, .bool true, .string ⟨#[]⟩, .string ⟨#[]⟩, .int .i64 0, .slice none 0 0, .slice vo1 N1 vc1, .slice none 0 0, .slice none 0 0, .int .i64 0]) := by rw [hV1, hz1]; exact Blk.new v1 _ _
  have HLV1 := hid (hac1.below hc1)
  have HBV1 := hid (bt' (HB2.out.trans hb1) hc1)
  have HPZ1 : Hid (¬ FootA p m z1) := fun hf => by have := hac1.at'.lt _ hf; omega
  have HVE1 := hid hV1
  have HZE1 := hid hz1
  have HEB1 := hid ((ht1.blk HK2.out HPF.out).below hc1 (ht1.blk HK2.out HPF.out).lt)
  have HC2 := hid (HLV1.out.on_yes HBV1.out.size ms2 (mkMs_ok _ _ _ _ _ (by unfold I64; decide) (by unfold I64; decide) (by unfold I64; decide) (by unfold I64; decide) (by unfold I64; decide)) (mkMs_b _ _ _ _ _) takes_2 after_2 kind_2 rec_2 (r := 2) (n := 0) (nd := 1) rfl rfl)
  simp only [ms2, mkMs, MsM.val, noopEn, List.length_nil] at HC2
  clear c0 c1 c2 c3 c4
  have c0 := HEB1.out.cell (i := 0) rfl
  have c1 := HEB1.out.cell (i := 1) rfl
  have c2 := HEB1.out.cell (i := 2) rfl
  have c3 := HEB1.out.cell (i := 3) rfl
  have c4 := HEB1.out.cell (i := 4) rfl
  rw [HVE1.out] at c0 c1 c2 c3 c4
  clear hac1 ht1 hb1 hc1 hV1 hz1 HC1
  go_wp2_with fail
  rw [← HVE1.out, ← HZE1.out]
  refine HC2.out.mono ?_
  rintro e v2 ⟨⟨vo2, vc2, N2, rfl⟩, hac2, ht2, hb2⟩
  obtain ⟨V2, hV2⟩ : ∃ V, V = v2.alloc (.cells #[.int .i64 5, .int .i64 1, .int .i64 2, .int .i64 2, .int .i64 0, .int .i64 0, .bool true, .string ⟨#[]⟩, .string ⟨#[]⟩, .int .i64 0, .slice none 0 0, .slice vo2 N2 vc2, .slice none 0 0, .slice none 0 0, .int .i64 0] 43) := ⟨_, rfl⟩
  have hc2 : Below v2.heap.size v2 V2 := by rw [hV2]; exact (Below.refl _ _).alloc (Nat.le_refl _) _
  obtain ⟨z2, hz2⟩ : ∃ q, q = v2.heap.size := ⟨_, rfl⟩
  have HZ2 : Hid (Blk V2 z2 43 [.int .i64 5, .int .i64 1, .int .i64 2, .int .i64 2, .int .i64 0, .int .i64 0, .bool true, .string ⟨#[]⟩, .string ⟨#[]⟩, .int .i64 0, .slice none 0 0, .slice vo2 N2 vc2, .slice none 0 0, .slice none 0 0, .int .i64 0]) := by rw [hV2, hz2]; exact Blk.new v2 _ _
  have HLV2 := hid (hac2.below hc2)
  have HBV2 := hid (bt' (HBV1.out.trans hb2) hc2)
  have HPZ2 : Hid (¬ FootA p m z2) := fun hf => by have := hac2.at'.lt _ hf; omega
  have HVE2 := hid hV2
  have HZE2 := hid hz2
  have HEB2 := hid ((ht2.blk HEB1.out HPF.out).below hc2 (ht2.blk HEB1.out HPF.out).lt)
  have HZ1b := hid ((ht2.blk HZ1.out HPZ1.out).below hc2 (ht2.blk HZ1.out HPZ1.out).lt)
  have HC3 := hid (HLV2.out.on_yes HBV2.out.size ms3 (mkMs_ok _ _ _ _ _ (by unfold I64; decide) (by unfold I64; decide) (by unfold I64; decide) (by unfold I64; decide) (by unfold I64; decide)) (mkMs_b _ _ _ _ _) takes_3 after_3 kind_3 HR3.out (r := 2) (n := 0) (nd := 1) rfl rfl)
  simp only [ms3, mkMs, MsM.val, noopEn, List.length_nil] at HC3
  clear c0 c1 c2 c3 c4
  have c0 := HEB2.out.cell (i := 0) rfl
  have c1 := HEB2.out.cell (i := 1) rfl
  have c2 := HEB2.out.cell (i := 2) rfl
  have c3 := HEB2.out.cell (i := 3) rfl
  have c4 := HEB2.out.cell (i := 4) rfl
  rw [HVE2.out] at c0 c1 c2 c3 c4
  clear hac2 ht2 hb2 hc2 hV2 hz2 HC2
  go_wp2_with fail
  rw [← HVE2.out, ← HZE2.out]
  refine HC3.out.mono ?_
  rintro e v3 ⟨⟨vo3, vc3, N3, rfl⟩, hac3, ht3, hb3⟩
  obtain ⟨V3, hV3⟩ : ∃ V, V = v3.alloc (.cells #[.int .i64 4, .int .i64 1, .int .i64 0, .int .i64 2, .int .i64 0, .int .i64 3, .bool true, .string ⟨#[]⟩, .string ⟨#[]⟩, .int .i64 0, .slice none 0 0, .slice vo3 N3 vc3, .slice none 0 0, .slice none 0 0, .int .i64 0] 43) := ⟨_, rfl⟩
  have hc3 : Below v3.heap.size v3 V3 := by rw [hV3]; exact (Below.refl _ _).alloc (Nat.le_refl _) _
  obtain ⟨z3, hz3⟩ : ∃ q, q = v3.heap.size := ⟨_, rfl⟩
  have HZ3 : Hid (Blk V3 z3 43 [.int .i64 4, .int .i64 1, .int .i64 0, .int .i64 2, .int .i64 0, .int .i64 3, .bool true, .string ⟨#[]⟩, .string ⟨#[]⟩, .int .i64 0, .slice none 0 0, .slice vo3 N3 vc3, .slice none 0 0, .slice none 0 0, .int .i64 0]) := by rw [hV3, hz3]; exact Blk.new v3 _ _
  have HLV3 := hid (hac3.below hc3)
  have HBV3 := hid (bt' (HBV2.out.trans hb3) hc3)
  have HPZ3 : Hid (¬ FootA p m z3) := fun hf => by have := hac3.at'.lt _ hf; omega
  have HVE3 := hid hV3
  have HZE3 := hid hz3
  have HZ1c3 := hid ((ht3.blk HZ1b.out HPZ1.out).below hc3 (ht3.blk HZ1b.out HPZ1.out).lt)
  have HZ2c3 := hid ((ht3.blk HZ2.out HPZ2.out).below hc3 (ht3.blk HZ2.out HPZ2.out).lt)
  have HVO := hid HLV3.out.at'.votes
  have a0 := HZ1c3.out.cell (i := 0) rfl
  have b0 := HZ2c3.out.cell (i := 0) rfl
  have b3 := HZ2c3.out.cell (i := 3) rfl
  have d0 := HZ3.out.cell (i := 0) rfl
  rw [HVE3.out] at a0 b0 b3 d0
  rw [HZE3.out] at d0
  clear hac3 ht3 hb3 hc3 hV3 hz3 HC3 c0 c1 c2 c3 c4
  go_wp2_with fail
  rw [← HVE3.out]
  refine HVO.out.mono ?_
  rintro e w9 ⟨vo, vc, vs, rfl, hmap, _, _, _, hb9⟩
  have hlen : vs.length = 1 := by have := congrArg List.length hmap; rw [votes_3] at this; simpa using this
  rw [hlen]
  have HB9 := hid (bt' HBV3.out hb9)
  clear hmap hb9 hlen
  go_wp2
  go_ret
  have hE1 : R1.toList.isEmpty = false := by simpa using hR1
  have hE3 : R3.toList.isEmpty = false := by simpa using hR3
  refine ⟨?_, HB9.out⟩
  show Ending.returned (.bool (!R1.toList.isEmpty && !R3.toList.isEmpty)) = _
  rw [hE1, hE3]
  rfl
end Go.Proofs.YtfmnbehopdmahaaGreat
/-
  How an argument of type []string is read.
-/
namespace Go.Proofs.YtfmnbehopdmahaaGreat
open Go.RowKit Go.ChangeShapes Go.WideShapes

/-- A slice of strings holds ls. -/
def HeldStr (w : World) (ao : Option Addr) (ls : List ByteArray) : Prop :=
  (∀ s ∈ ls, s.size ≤ maxLen) ∧ (ls = [] ∨ ∃ b off, ao = some ⟨b, off, none⟩ ∧ b < w.heap.size ∧ ∀ j, j < ls.length → w.cell? ⟨b, off + j, none⟩ = some (.string (ls.getD j ByteArray.empty)))
theorem HeldStr.below {w w' : World} {ao : Option Addr} {ls : List ByteArray} (h : HeldStr w ao ls) (hb : Below w.heap.size w w') : HeldStr w' ao ls := by
  refine ⟨h.1, ?_⟩
  rcases h.2 with h0 | ⟨b, off, h1, h2, h3⟩
  · exact .inl h0
  · exact .inr ⟨b, off, h1, Nat.lt_of_lt_of_le h2 hb.size, fun j hj => (hb.cell (p := ⟨b, off + j, none⟩) h2).trans (h3 j hj)⟩
theorem HeldStr.at {w : World} {ao : Option Addr} {ls : List ByteArray} (h : HeldStr w ao ls) {j : Nat} (hj : j < ls.length) : ∃ b off, ao = some ⟨b, off, none⟩ ∧ b < w.heap.size ∧ w.cell? ⟨b, off + j, none⟩ = some (.string (ls.getD j ByteArray.empty)) := by
  rcases h.2 with h0 | ⟨b, off, h1, h2, h3⟩
  · subst h0
    cases hj
  · exact ⟨b, off, h1, h2, h3 j hj⟩
theorem HeldStr.sizeD {w : World} {ao : Option Addr} {ls : List ByteArray} (h : HeldStr w ao ls) {j : Nat} (hj : j < ls.length) : (ls.getD j ByteArray.empty).size ≤ maxLen := by
  simp only [List.getD, List.getElem?_eq_getElem hj, Option.getD]
  exact h.1 _ (List.getElem_mem hj)
theorem open_strs {H : Type} {enc : TypeId × Value → H} {w : World} {base : Nat} {held : Bool} {ao : Option Addr} {len cap : Nat} {d : DataW H} {p : List MemPlace} (h : DataW.Trod enc Tryz.prog w base (fun _ => true) held 54 (.slice ao len cap) d p) :
    ∃ ls, ls.length = len ∧ HeldStr w ao ls ∧ (len = 0 ∨ ∃ es sp, d = .slice es sp ∧ es.length = len) := by
  obtain ⟨fuel, hf⟩ := h
  rcases open_strings Tryz.underlying54 Tryz.underlying9 (by kernel_rfl) hf with ⟨hcs, _⟩ | ⟨x, l, c, zs, hcs, _, hl, hm, hz, hx, hcell, hwz⟩
  · simp [Value.cells] at hcs
    obtain ⟨rfl, rfl, rfl⟩ := hcs
    exact ⟨[], rfl, ⟨fun s hs => (by cases hs), .inl rfl⟩, .inl rfl⟩
  · simp [Value.cells] at hcs
    obtain ⟨rfl, rfl, rfl⟩ := hcs
    have hz' : zs.length = cap := by simpa using hz
    refine ⟨zs.take len, by simp; omega, ⟨fun s hs => hwz s (List.mem_of_mem_take hs), ?_⟩, ?_⟩
    · by_cases h0 : len = 0
      · left
        simp [h0]
      · right
        obtain ⟨b, off, rfl, hb⟩ := plain_addr (hcell 0 (by omega))
        refine ⟨b, off, rfl, hb, fun j hj => ?_⟩
        simp at hj
        have := hcell j (by omega)
        rw [Addr.add_lit] at this
        rw [this]
        simp [List.getD, List.getElem?_take_of_lt (show j < len by omega)]
    · simp only [Prod.mk.injEq] at hx
      right
      exact ⟨_, _, hx.1, by simp [strs]; omega⟩
end Go.Proofs.YtfmnbehopdmahaaGreat
