/-
  Package vv: Between's copies lie in new blocks; what a round of a range over its iterator keeps.
-/
import Derived.Test.YtjlompnjhmbhhaaGreatVvJ
namespace Go.Proofs.YtjlompnjhmbhhaaGreat
open Go.RowKit Go.Shelf Go.Maps

/-- A slice's block is none below B. -/
def OldAt (B : Nat) (ao : Option Addr) (xs : List Int) : Prop := ∀ b off, ao = some ⟨b, off, none⟩ → xs ≠ [] → B ≤ b
theorem OldAt.mono {B C : Nat} {ao : Option Addr} {xs : List Int} (h : OldAt B ao xs) (hC : C ≤ B) : OldAt C ao xs := fun b off e hne => Nat.le_trans hC (h b off e hne)
def AnsV2 (w : World) (xs : List Int) (e : Ending) (w' : World) : Prop := ∃ bo cp, e = .returned (.slice bo xs.length cp) ∧ HV w' bo cp xs ∧ Below w.heap.size w w' ∧ OldAt w.heap.size bo xs
def AnsIt2 (w : World) (a b : List Int) (e : Ending) (w' : World) : Prop := ∃ ao bo ca cb, e = .returned (.func (.func 80) #[] #[.pointer (some ⟨w.heap.size + 1, 0, none⟩), .pointer (some ⟨w.heap.size, 0, none⟩)]) ∧ ItAt w' w.heap.size (w.heap.size + 1) a b ao bo ca cb ∧ Below w.heap.size w w' ∧ OldAt w.heap.size ao a ∧ OldAt w.heap.size bo b

theorem clone2_any (w : World) (ao : Option Addr) (cap : Nat) (xs : List Int) (n : Nat) (hn : xs.length = n) (h : HV w ao cap xs) :
    Calls Tryz.prog 31 #[.slice ao n cap] w (AnsV2 w xs) := by
  cases ao with
  | none =>
    have he := fun W => eqlI_none W n cap
    have hx := h.held.of_none
    clear h
    go_enter Tryz.func31, Tryz.ntmps31
    go_wp2
    go_ret
    subst hx
    exact ⟨_, _, rfl, hv_nil _, Below.refl _ _, fun _ _ _ h => absurd rfl h⟩
  | some ad =>
    have he := fun W => eqlI_some W ad n cap
    have H := hid h
    have HN := hid hn
    clear h hn
    go_enter Tryz.func31, Tryz.ntmps31
    go_wp2_with (at_builtin; refine wpList_append_copy w rfl _ _ rfl rfl _ _ xs n HN.out rfl H.out.held H.out.few ?_; intro bo cp w' hown hv hb)
    have HO := hid hown
    have HV' := hid hv
    have HB := hid hb
    clear hv hb hown
    go_wp2
    go_ret
    refine ⟨bo, cp, by rw [HN.out]; rfl, HV'.out, HB.out, fun b off e _ => own_lt HO.out b ?_⟩
    subst e
    rcases HO.out.2 with ⟨h1, _⟩ | ⟨g, c, cur, h1, _⟩
    · cases h1
    · cases h1
      rfl

set_option maxRecDepth 100000 in
set_option maxHeartbeats 1000000 in
theorem between2_any (w : World) (ao bo : Option Addr) (ca cb : Nat) (a b : List Int) (m n : Nat) (hm : a.length = m) (hn : b.length = n) (ha : HV w ao ca a) (hb : HV w bo cb b) :
    Calls Tryz.prog 62 #[.slice ao m ca, .slice bo n cb] w (AnsIt2 w a b) := by
  have HA := hid ha
  have HB := hid hb
  have HM := hid hm
  have HN := hid hn
  clear ha hb hm hn
  obtain ⟨W, hW⟩ : ∃ W, W = (w.alloc (.cells #[.slice ao m ca] 23)).alloc (.cells #[.slice bo n cb] 23) := ⟨_, rfl⟩
  have HBW : Hid (Below w.heap.size w W ∧ W.heap.size = w.heap.size + 2) := ⟨by rw [hW]; exact ((Below.refl _ _).alloc (Nat.le_refl _) _).alloc (by simp) _, by rw [hW]; simp⟩
  have hb2 : Blk W w.heap.size 23 [.slice ao m ca] := by rw [hW]; exact (Blk.new w 23 [.slice ao m ca]).alloc _
  have hb3 : Blk W (w.heap.size + 1) 23 [.slice bo n cb] := by
    have := Blk.new (w.alloc (.cells #[.slice ao m ca] 23)) 23 [.slice bo n cb]
    rw [World.size_alloc] at this
    rw [hW]
    exact this
  have c2 := hb2.cell (i := 0) rfl
  have c3 := hb3.cell (i := 0) rfl
  have HB2 := hid hb2
  have HB3 := hid hb3
  have HC1 : Hid (∀ V, Below W.heap.size W V → Calls Tryz.prog 31 #[.slice ao m ca] V (AnsV2 V a)) := fun V hV => clone2_any V ao ca a m HM.out ((HA.out.below HBW.out.1).below hV)
  have HC2 : Hid (∀ V, Below W.heap.size W V → Calls Tryz.prog 31 #[.slice bo n cb] V (AnsV2 V b)) := fun V hV => clone2_any V bo cb b n HN.out ((HB.out.below HBW.out.1).below hV)
  clear hb2 hb3
  go_enter Tryz.func62, Tryz.ntmps62
  go_wp2
  rw [← hW]
  clear hW
  obtain ⟨p, hp⟩ : ∃ p, p = w.heap.size := ⟨_, rfl⟩
  rw [← hp] at c2 c3 HB2 HB3 ⊢
  have HPP := hid hp
  clear hp
  go_region_with (first
    | (go_at_call 31; refine (HC1.out _ ?_).mono ?_; (first | exact Below.refl _ _ | exact below_dn (Below.refl _ _) 1 | exact below_dn (Below.refl _ _) 2 | exact below_dn (Below.refl _ _) 3); rintro e w4 ⟨co, cc, rfl, hv4, hb4, ho4⟩; have HO4 : Hid (OldAt W.heap.size co a) := OldAt.mono ho4 (Nat.le_refl _); have HV4 := hid hv4; have HB4 : Hid (Below W.heap.size W w4) := ⟨hb4.os, hb4.tape, hb4.output, hb4.size, hb4.block⟩; have k2 := (HB2.out.below HB4.out HB2.out.lt).cell (i := 0) rfl; have k3 := (HB3.out.below HB4.out HB3.out.lt).cell (i := 0) rfl; clear hv4 hb4 ho4)
    | (go_at_call 31; refine (HC2.out _ ?_).mono ?_; (first | exact HB4.out | exact below_dn HB4.out 1 | exact below_dn HB4.out 2); rintro e w5 ⟨eo, ec, rfl, hv5, hb5, ho5⟩; have HO5 : Hid (OldAt W.heap.size eo b) := OldAt.mono ho5 HB4.out.size; have HV5 := hid hv5; have HB5' : Hid (Below w4.heap.size w4 w5) := ⟨hb5.os, hb5.tape, hb5.output, hb5.size, hb5.block⟩; have HB5 : Hid (Below W.heap.size W w5) := HB4.out.trans (HB5'.out.mono HB4.out.size); have j2 := (HB2.out.below HB5.out HB2.out.lt).cell (i := 0) rfl; have j3 := (HB3.out.below HB5.out HB3.out.lt).cell (i := 0) rfl; have f2 := (HB2.out.below HB5.out HB2.out.lt).frozen 0; have f3 := (HB3.out.below HB5.out HB3.out.lt).frozen 0; clear hv5 hb5 ho5))
  all_goals
    go_wp2
    go_ret
    have hB2 := HB2.out.below HB5.out HB2.out.lt
    have hB3 := HB3.out.below HB5.out HB3.out.lt
    have hv4 := HV4.out.below HB5'.out
    have hT : Turns (fun i => i = p ∨ i = p + 1) w5 ((w5.setCell ⟨p, 0, none⟩ (.slice co a.length cc)).setCell ⟨p + 1, 0, none⟩ (.slice eo b.length ec)) :=
      ((Turns.refl _ _).setCell (p := ⟨p, 0, none⟩) (.inl (.inl rfl)) _).setCell (p := ⟨p + 1, 0, none⟩) (.inl (.inr rfl)) _
    have hap : ∀ {xo : Option Addr} {xs : List Int}, HeldInt w5 xo xs → ∀ b' off, xo = some ⟨b', off, none⟩ → xs ≠ [] → ¬ (b' = p ∨ b' = p + 1) := by
      rintro xo xs hh b' off he hne (rfl | rfl)
      · exact hh.apart hB2 he hne rfl
      · exact hh.apart hB3 he hne rfl
    refine ⟨co, eo, cc, ec, ?_, ⟨?_, ?_, ⟨hv4.held.turned hT (hap hv4.held), hv4.room, hv4.few⟩, ⟨HV5.out.held.turned hT (hap HV5.out.held), HV5.out.room, HV5.out.few⟩⟩, ?_, HO4.out.mono (by have := HBW.out.2; omega), HO5.out.mono (by have := HBW.out.2; omega)⟩
    · rw [← HPP.out]
      rfl
    · rw [← HPP.out]
      exact (hB2.set 0 _).other (by omega) _ _
    · rw [← HPP.out]
      exact (hB3.other (by omega) _ _).set 0 _
    · have h1 := HBW.out.1.trans (HB5.out.mono (by have := HBW.out.2; omega))
      have h2 := hT.below (B := w.heap.size) (fun i hi => by have := HPP.out; omega) (h1.size)
      exact h1.trans h2
/-- What lay below n0, and what lies from n1 to n2, stays. -/
def Kq (n0 n1 n2 : Nat) (A B : World) : Prop := Below n0 A B ∧ ∀ k, n1 ≤ k → k < n2 → B.heap[k]? = A.heap[k]?
theorem Kq.refl {n0 n1 n2 : Nat} (A : World) : Kq n0 n1 n2 A A := ⟨Below.refl _ _, fun _ _ _ => rfl⟩
theorem Kq.trans {n0 n1 n2 : Nat} {A B C : World} (h : Kq n0 n1 n2 A B) (k : Kq n0 n1 n2 B C) : Kq n0 n1 n2 A C := ⟨h.1.trans k.1, fun j h1 h2 => (k.2 j h1 h2).trans (h.2 j h1 h2)⟩
theorem Kq.dn {n0 n1 n2 : Nat} (A : World) (q : Nat) : Kq n0 n1 n2 A (A.drewN q) := ⟨below_dn (Below.refl _ _) q, fun _ _ _ => rfl⟩
theorem Kq.set {n0 n1 n2 g : Nat} (A : World) (hg : n0 ≤ g) (hg1 : g < n1) (u : Value) : Kq n0 n1 n2 A (A.setCell ⟨g, 0, none⟩ u) :=
  ⟨(Below.refl _ A).setCell (p := ⟨g, 0, none⟩) hg u, fun k h1 _ => Below.heap_setCell _ _ _ _ (by intro e; have : k = g := e; omega)⟩
theorem Kq.alloc {n0 n1 n2 : Nat} (A : World) (h0 : n0 ≤ A.heap.size) (h2 : n2 ≤ A.heap.size) (o : Obj) : Kq n0 n1 n2 A (A.alloc o) :=
  ⟨(Below.refl _ A).alloc h0 o, fun k _ h => Below.heap_alloc _ _ _ (by omega)⟩
theorem HeldInt.blocks {w w' : World} {ao : Option Addr} {xs : List Int} (h : HeldInt w ao xs) (hs : w.heap.size ≤ w'.heap.size) (hb : ∀ b off, ao = some ⟨b, off, none⟩ → xs ≠ [] → w'.heap[b]? = w.heap[b]?) : HeldInt w' ao xs := by
  refine ⟨h.1, ?_⟩
  by_cases hne : xs = []
  · exact .inl hne
  · rcases h.2 with h0 | ⟨b, off, rfl, hlt, hc⟩
    · exact .inl h0
    · refine .inr ⟨b, off, rfl, Nat.lt_of_lt_of_le hlt hs, fun j hj => ?_⟩
      have := hc j hj
      simp only [World.cell?] at this ⊢
      rw [hb b off rfl hne]
      exact this
theorem betw_seq (n : Nat) (hn : 1 ≤ n) (n0 n1 p q : Nat) (V2 : World) (ao bo : Option Addr) (ca cb : Nat) (a b : List Int) (hn0 : n0 ≤ n1) (hp : n1 ≤ p) (hq : n1 ≤ q) (hit : ItAt V2 p q a b ao bo ca cb) (hoa : OldAt n1 ao a) (hob : OldAt n1 bo b) (h12 : n1 ≤ V2.heap.size) :
    SeqStopsK Fence.wide n Tryz.prog 80 #[.pointer (some ⟨q, 0, none⟩), .pointer (some ⟨p, 0, none⟩)] (fun x : Int × Int => #[dotV x]) (Kq n0 n1 V2.heap.size) (fun ys => ys = dotsAll a b) (fun pre => pre <+: dotsAll a b) (dotsAll a b).length V2 :=
  fun l J Jx W hW hJ _ hY h0 =>
    betw1_inK n hn l p q (Kq n0 n1 V2.heap.size) Kq.refl (fun h k => Kq.trans h k) ao bo ca cb a b J Jx W hY (fun W' hk => by
      have hk2 : Kq n0 n1 V2.heap.size V2 W' := Kq.trans ⟨hW.mono (by omega), fun k _ h2 => hW.block k h2⟩ hk
      have hlt : ∀ {xo : Option Addr} {xs : List Int}, HeldInt V2 xo xs → ∀ b off, xo = some ⟨b, off, none⟩ → xs ≠ [] → b < V2.heap.size := by
        intro xo xs hh b off he hne
        rcases hh.2 with h0 | ⟨b', off', e, hl, _⟩
        · exact absurd h0 hne
        · rw [he] at e
          cases e
          exact hl
      exact ⟨(hk2.2 p hp hit.bp.lt).trans hit.bp, (hk2.2 q hq hit.bq.lt).trans hit.bq, ⟨hit.ha.held.blocks hk2.1.size (fun b off e hne => hk2.2 b (hoa b off e hne) (hlt hit.ha.held b off e hne)), hit.ha.room, hit.ha.few⟩, ⟨hit.hb.held.blocks hk2.1.size (fun b off e hne => hk2.2 b (hob b off e hne) (hlt hit.hb.held b off e hne)), hit.hb.room, hit.hb.few⟩⟩) h0
theorem ownFrom_at {β : Type} {B k : Nat} {o : Obj} (hk : k < B) : OwnFrom B (fun (_ : β) W => W.heap[k]? = some o) := fun _ W W' row hs hg hr =>
  (hg.block k (Array.getElem?_eq_some_iff.1 hs).1 (fun e => by have := (hr k e.symm).1; omega)).trans hs
theorem ownFrom_or {β : Type} {B : Nat} {p : β → Prop} {I : β → World → Prop} (h : OwnFrom B I) (q : β → Prop) : OwnFrom B (fun s W => p s ∨ (q s ∧ I s W)) := fun s W W' row hs hg hr => by
  rcases hs with hs | ⟨hq, hs⟩
  · exact .inl hs
  · exact .inr ⟨hq, h s W W' row hs hg hr⟩
end Go.Proofs.YtjlompnjhmbhhaaGreat
