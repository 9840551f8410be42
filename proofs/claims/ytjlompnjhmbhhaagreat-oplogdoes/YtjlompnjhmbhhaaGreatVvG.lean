/-
  Package vv: Between and Dots answer an iterator over copies of what they are handed.
-/
import Derived.Test.YtjlompnjhmbhhaaGreatVvF
import Derived.Deep.RegionHeld3
import Derived.Deep.RegionWith
namespace Go.Proofs.YtjlompnjhmbhhaaGreat
open Go.RowKit Go.Maps

/-- An iterator over the dots that b has and a has not: its two boxes. -/
structure ItAt (w : World) (p q : Nat) (a b : List Int) (ao bo : Option Addr) (ca cb : Nat) : Prop where
  bp : Blk w p 23 [.slice ao a.length ca]
  bq : Blk w q 23 [.slice bo b.length cb]
  ha : HV w ao ca a
  hb : HV w bo cb b

def AnsIt (w : World) (a b : List Int) (e : Ending) (w' : World) : Prop := ∃ ao bo ca cb, e = .returned (.func (.func 80) #[] #[.pointer (some ⟨w.heap.size + 1, 0, none⟩), .pointer (some ⟨w.heap.size, 0, none⟩)]) ∧ ItAt w' w.heap.size (w.heap.size + 1) a b ao bo ca cb ∧ Below w.heap.size w w'

theorem HeldInt.apart {w : World} {p : Nat} {t : TypeId} {co : Option Addr} {l c : Nat} {xo : Option Addr} {xs : List Int} (h : HeldInt w xo xs) (hb : Blk w p t [.slice co l c]) {b off : Nat} (he : xo = some ⟨b, off, none⟩) (hne : xs ≠ []) : b ≠ p := by
  rintro rfl
  rcases h.2 with h0 | ⟨b', off', e, _, hc⟩
  · exact hne h0
  · rw [he] at e
    cases e
    have h1 := hc 0 (List.length_pos_iff.2 hne)
    have h' : w.heap[b]? = some (.cells [Value.slice co l c].toArray t (0, 0)) := hb
    simp only [World.cell?, h'] at h1
    cases off with
    | zero => simp at h1
    | succ o => simp at h1

set_option maxRecDepth 100000 in
set_option maxHeartbeats 1000000 in
theorem between_any (w : World) (ao bo : Option Addr) (ca cb : Nat) (a b : List Int) (m n : Nat) (hm : a.length = m) (hn : b.length = n) (ha : HV w ao ca a) (hb : HV w bo cb b) :
    Calls Tryz.prog 62 #[.slice ao m ca, .slice bo n cb] w (AnsIt w a b) := by
  have HA := hid ha
  have HB := hid hb
  have HM := hid hm
  have HN := hid hn
  clear ha hb hm hn
  obtain ⟨W, hW⟩ : ∃ W, W = (w.alloc (.cells #[.slice ao m ca] 23)).alloc (.cells #[.slice bo n cb] 23) := ⟨_, rfl⟩
  have HBW : Hid (Below w.heap.size w W ∧ W.heap.size = w.heap.size + 2) := ⟨by rw [hW]; exact ((Below.refl _ _).alloc (Nat.le_refl _) _).alloc (by simp) _, by rw [hW]; simp⟩
  have hb2 : Blk W w.heap.size 23 [.slice ao m ca] := by rw [hW]; exact (Blk.new w 23 [.slice ao m ca]).alloc _
  have hb3 : Blk W (w.heap.size + 1) 23 [.slice bo n cb] := by
    have := Blk.new (w.alloc (.cells #[.slice ao m ca] 23)) 23 [.slice bo n cb]
    rw [World.size_alloc] at this
    rw [hW]
    exact this
  have c2 := hb2.cell (i := 0) rfl
  have c3 := hb3.cell (i := 0) rfl
  have HB2 := hid hb2
  have HB3 := hid hb3
  have HC1 : Hid (∀ V, Below W.heap.size W V → Calls Tryz.prog 31 #[.slice ao m ca] V (AnsV V a)) := fun V hV => clone_any V ao ca a m HM.out ((HA.out.below HBW.out.1).below hV)
  have HC2 : Hid (∀ V, Below W.heap.size W V → Calls Tryz.prog 31 #[.slice bo n cb] V (AnsV V b)) := fun V hV => clone_any V bo cb b n HN.out ((HB.out.below HBW.out.1).below hV)
  clear hb2 hb3
  go_enter Tryz.func62, Tryz.ntmps62
  go_wp2
  rw [← hW]
  clear hW
  obtain ⟨p, hp⟩ : ∃ p, p = w.heap.size := ⟨_, rfl⟩
  rw [← hp] at c2 c3 HB2 HB3 ⊢
  have HPP := hid hp
  clear hp
  go_region_with (first
    | (go_at_call 31; refine (HC1.out _ ?_).mono ?_; (first | exact Below.refl _ _ | exact below_dn (Below.refl _ _) 1 | exact below_dn (Below.refl _ _) 2 | exact below_dn (Below.refl _ _) 3); rintro e w4 ⟨co, cc, rfl, hv4, hb4⟩; have HV4 := hid hv4; have HB4 : Hid (Below W.heap.size W w4) := ⟨hb4.os, hb4.tape, hb4.output, hb4.size, hb4.block⟩; have k2 := (HB2.out.below HB4.out HB2.out.lt).cell (i := 0) rfl; have k3 := (HB3.out.below HB4.out HB3.out.lt).cell (i := 0) rfl; clear hv4 hb4)
    | (go_at_call 31; refine (HC2.out _ ?_).mono ?_; (first | exact HB4.out | exact below_dn HB4.out 1 | exact below_dn HB4.out 2); rintro e w5 ⟨eo, ec, rfl, hv5, hb5⟩; have HV5 := hid hv5; have HB5' : Hid (Below w4.heap.size w4 w5) := ⟨hb5.os, hb5.tape, hb5.output, hb5.size, hb5.block⟩; have HB5 : Hid (Below W.heap.size W w5) := HB4.out.trans (HB5'.out.mono HB4.out.size); have j2 := (HB2.out.below HB5.out HB2.out.lt).cell (i := 0) rfl; have j3 := (HB3.out.below HB5.out HB3.out.lt).cell (i := 0) rfl; have f2 := (HB2.out.below HB5.out HB2.out.lt).frozen 0; have f3 := (HB3.out.below HB5.out HB3.out.lt).frozen 0; clear hv5 hb5))
  all_goals
    go_wp2
    go_ret
    have hB2 := HB2.out.below HB5.out HB2.out.lt
    have hB3 := HB3.out.below HB5.out HB3.out.lt
    have hv4 := HV4.out.below HB5'.out
    have hT : Turns (fun i => i = p ∨ i = p + 1) w5 ((w5.setCell ⟨p, 0, none⟩ (.slice co a.length cc)).setCell ⟨p + 1, 0, none⟩ (.slice eo b.length ec)) :=
      ((Turns.refl _ _).setCell (p := ⟨p, 0, none⟩) (.inl (.inl rfl)) _).setCell (p := ⟨p + 1, 0, none⟩) (.inl (.inr rfl)) _
    have hap : ∀ {xo : Option Addr} {xs : List Int}, HeldInt w5 xo xs → ∀ b' off, xo = some ⟨b', off, none⟩ → xs ≠ [] → ¬ (b' = p ∨ b' = p + 1) := by
      rintro xo xs hh b' off he hne (rfl | rfl)
      · exact hh.apart hB2 he hne rfl
      · exact hh.apart hB3 he hne rfl
    refine ⟨co, eo, cc, ec, ?_, ⟨?_, ?_, ⟨hv4.held.turned hT (hap hv4.held), hv4.room, hv4.few⟩, ⟨HV5.out.held.turned hT (hap HV5.out.held), HV5.out.room, HV5.out.few⟩⟩, ?_⟩
    · rw [← HPP.out]
      rfl
    · rw [← HPP.out]
      exact (hB2.set 0 _).other (by omega) _ _
    · rw [← HPP.out]
      exact (hB3.other (by omega) _ _).set 0 _
    · have h1 := HBW.out.1.trans (HB5.out.mono (by have := HBW.out.2; omega))
      have h2 := hT.below (B := w.heap.size) (fun i hi => by have := HPP.out; omega) (h1.size)
      exact h1.trans h2
theorem it_eql (p q : Nat) (W : World) : (binOp .eql 70 (.func (.func 80) #[] #[.pointer (some ⟨p, 0, none⟩), .pointer (some ⟨q, 0, none⟩)]) .nilFunc).run Tryz.prog W = .ok (.bool false) W := by kernel_rfl
theorem it_neq (p q : Nat) (W : World) : (binOp .neq 70 (.func (.func 80) #[] #[.pointer (some ⟨p, 0, none⟩), .pointer (some ⟨q, 0, none⟩)]) .nilFunc).run Tryz.prog W = .ok (.bool true) W := by kernel_rfl
theorem dotsOf_any (w : World) (x : Int) : Calls Tryz.prog 81 #[.int .i64 x] w fun e w' => e = .returned (.int .i64 (max x 0)) ∧ w' = w := by
  go_enter Tryz.func81, Tryz.ntmps81
  go_wp2
  all_goals
    go_ret
    exact ⟨ret_int (by omega), rfl⟩
end Go.Proofs.YtjlompnjhmbhhaaGreat
