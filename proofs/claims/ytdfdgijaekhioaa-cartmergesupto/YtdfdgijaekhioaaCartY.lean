/-
  slices.Grow and slices.Concat of events.
-/
import Derived.Test.YtdfdgijaekhioaaCartS
import Derived.Shelf.Spec.SlicesGrow
import Derived.Shelf.Lay
namespace Go.Proofs
open Go.Shelf Go.RowKit Go.Lib
shelf_lay_g Lays8.n4 Nm8 4 at Try 46 as Ytdfdgijaekhioaa.growEvents
end Go.Proofs
namespace Go.Proofs.Ytdfdgijaekhioaa
open Go.Shelf Go.RowKit Go.Lib Go.Maps

/-- slices.Grow of nil: an empty row of the call's own. -/
theorem growE_any (w : World) (n : Nat) (hn : n ≤ 8388608) :
    Calls Try.prog 46 #[.slice none 0 0, .int .i64 (n : Int)] w (MadeE w []) := by
  by_cases h0 : n = 0
  · subst h0
    have h := Any8.slices_Grow_room growEvents none 0 0 0 w (Nat.le_refl _) (by omega) (by omega) (by omega)
    refine Calls.mono h ?_
    rintro e w' ⟨rfl, rfl⟩
    exact ⟨_, rfl, ⟨rfl, .inl ⟨rfl, rfl⟩⟩, Below.refl _ _⟩
  · obtain ⟨iI, hj, hy0, hy1, hy2⟩ := info_parts Try.infoEv
    have h := Any8.slices_Grow_grow growEvents iI _ hj hy0 (by rw [hy1]; decide) none 0 0 n [] w (Nat.le_refl _) (by omega) (by rw [hy2]; omega) (by omega) (by simp) (fun _ => rfl) (fun a ha => by cases ha)
    refine Calls.mono h ?_
    rintro e w' ⟨rfl, rfl⟩
    have hge := grownCap_ge w (0 + n) 0 (growEvents_ren.t 25)
    have hle := grownCap_le_maxLen w (0 + n) 0 29 (by unfold maxLen; omega)
    refine ⟨_, rfl, ⟨rfl, .inr ⟨w.heap.size, _, _, rfl, Nat.le_refl _, World.alloc_heap_new w.drew _, Nat.zero_le _, hle, ?_, by simp [flatE]⟩⟩, ?_⟩
    · simp only [Array.size_append, size_zeroCells]
      show _ + (0 + n - 0) * 8 + (_ - (0 + n)) * 8 = _
      simp only [Nat.zero_add] at hge ⊢
      show 0 + (n - 0) * 8 + _ = _
      omega
    · exact (below_dr (Below.refl _ _)).alloc (Nat.le_refl _) _
set_option maxRecDepth 1000000 in
set_option maxHeartbeats 2000000 in
theorem concatE_any (w : World) (g : Nat) (ao bo : Option Addr) (ca cb : Nat) (xs ys : List EvM) (n m : Nat) (hn : xs.length = n) (hm : ys.length = m) (h0 : w.cell? ⟨g, 0, none⟩ = some (.slice ao n ca)) (h1 : w.cell? ⟨g, 1, none⟩ = some (.slice bo m cb)) (hg : g < w.heap.size) (hx : HeldE w ao xs) (hy : HeldE w bo ys) (hl : n + m ≤ 4194304) :
    Calls Try.prog 31 #[.slice (some ⟨g, 0, none⟩) 2 2] w (MadeE w (xs ++ ys)) := by
  have HN := hid hn
  have HM := hid hm
  have HX := hid hx
  have HY := hid hy
  have HG := hid hg
  have H0 := hid h0
  have H1 := hid h1
  have e1 : ¬ (n : Int) < 0 := by omega
  have e2 : ¬ (n : Int) + (m : Int) < 0 := by omega
  have e3 : IntKind.i64.wrap ((n : Int) + (m : Int)) = (n : Int) + (m : Int) := wrapI (by omega) (by omega)
  have HGR := hid (growE_any w (n + m) (by omega))
  have hcast : (((n + m : Nat) : Int)) = (n : Int) + (m : Int) := by omega
  rw [hcast] at HGR
  clear hn hm hx hy hg hcast
  go_enter Try.func31, Try.ntmps31
  go_wp2
  refine wp_loop_rounds 3 ?_
  rw [rounds_succ]
  go_wp2
  rw [rounds_succ]
  go_wp2
  rw [rounds_succ]
  go_wp2_with fail
  refine HGR.out.mono ?_
  rintro e w1 ⟨v, rfl, hrow, hb1⟩
  have HR1 := hid hrow
  have HB1 := hid hb1
  have c0 := (hb1.cell (p := ⟨g, 0, none⟩) HG.out).trans H0.out
  have c1 := (hb1.cell (p := ⟨g, 1, none⟩) HG.out).trans H1.out
  clear hrow hb1 h0 h1
  go_wp2
  refine wp_loop_rounds 3 ?_
  rw [rounds_succ]
  have hn0 : 0 + n ≤ 100000000 := by omega
  have HK1 : Hid (∀ V, Below w.heap.size w1 V → AllOk V ([] ++ xs)) := fun V hV => (HX.out.below (HB1.out.trans hV)).1
  go_wp2_with (at_builtin; refine wpList_append_evs rfl _ _ rfl w.heap.size _ 0 [] rfl rfl HR1.out ao n ca xs HN.out rfl (HX.out.below HB1.out) hn0 HB1.out.size HK1.out ?_; intro b2 cp2 w2 hown2 _ hb2; rw [Nat.zero_add] at hown2 ⊢; have HO2 := hid hown2; have HB2 := hid (HB1.out.trans hb2); clear hown2 hb2)
  have d0 := (HB2.out.cell (p := ⟨g, 0, none⟩) HG.out).trans H0.out
  have d1 := (HB2.out.cell (p := ⟨g, 1, none⟩) HG.out).trans H1.out
  clear c0 c1
  go_wp2
  rw [rounds_succ]
  have hn1 : n + m ≤ 100000000 := by omega
  have HK2 : Hid (∀ V, Below w.heap.size w2 V → AllOk V ([] ++ xs ++ ys)) := fun V hV x hx => by
    rcases List.mem_append.1 hx with hx | hx
    · exact (HX.out.below (HB2.out.trans hV)).1 x hx
    · exact (HY.out.below (HB2.out.trans hV)).1 x hx
  have HL2 : Hid (([] ++ xs).length = n) := by show _ = _; rw [List.nil_append, HN.out]
  go_wp2_with (at_builtin; refine wpList_append_evs rfl _ _ rfl w.heap.size _ n ([] ++ xs) HL2.out rfl HO2.out bo m cb ys HM.out rfl (HY.out.below HB2.out) hn1 HB2.out.size HK2.out ?_; intro b3 cp3 w3 hown3 _ hb3; have HO3 := hid hown3; have HB3 := hid (HB2.out.trans hb3); clear hown3 hb3)
  go_wp2
  rw [rounds_succ]
  go_wp2
  go_ret
  refine ⟨_, rfl, ?_, HB3.out⟩
  have h5 := HO3.out
  rw [List.nil_append] at h5
  rw [show (xs ++ ys).length = n + m by rw [List.length_append, HN.out, HM.out]]
  exact h5
end Go.Proofs.Ytdfdgijaekhioaa
