/-
  Package disk: Files answers what the files are, by rising names; nothing that was there is written.
-/
import Derived.Test.YtjfohnkfcfifeaaDiskK
import Derived.Deep.RegionLaw
import Derived.Deep.AppendLies
namespace Go.Proofs.Ytjfohnkfcfifeaa
open Go.RowKit Go.Maps

section
variable {w : World} {p bm : Nat} {size calls : Int} {fs : List Fl} {D : DataW Value}
set_option maxRecDepth 100000 in
theorem files_any (h : DiskAt w p bm size calls fs D) :
    Calls Try.prog 13 #[.pointer (some ⟨p, 0, none⟩)] w fun e w' => ∃ v, e = .returned v ∧ ∃ gs, gs.Perm fs ∧ gs.Pairwise (fun x y => ¬ cmpF y x < 0) ∧ w'.ownsRow w.heap.size 47 3 v fs.length (flatF gs) ∧ Below w.heap.size w w' := by
  obtain ⟨i0, hi, hz0, hz1, hz2⟩ := info_parts Try.infoFile
  have HCL := hid h.closed
  have hc1 := h.blk.cell (i := 1) rfl
  have HH := hid h
  have hln := h.map.len Try.underlying49 3
  rw [h.cnt] at hln
  have hfew := h.few
  obtain ⟨M, hM⟩ : ∃ M, M = madeCells (Value.agg #[.string ByteArray.empty, .string ByteArray.empty, .int .i64 0]).cells ((fs.length : Int).toNat * i0.size) := ⟨_, rfl⟩
  have hmk : ∀ W : World, (Instr.makeSlice 41 (.int .i64 0) (.int .i64 (fs.length : Int))).run Try.prog W = .ok (.slice (some ⟨W.heap.size, 0, none⟩) 0 fs.length) (W.alloc (.cells M 47)) := fun W => by
    have h := run_make (P := Try.prog) W 41 47 i0 _ Try.underlying41 hi hz0 .i64 .i64 0 (fs.length : Int) (by omega) (by omega) (by rw [hz2]; omega) (by omega)
    rw [← hM] at h
    simpa using h
  have hMs : M.size = fs.length * 3 := by rw [hM, size_madeCells, hz1]; simp
  have hpl := h.blk.lt
  clear hM h
  go_enter Try.func13, Try.ntmps13
  go_wp2_with fail
  refine HCL.out.mono ?_
  rintro e w' ⟨rfl, h'⟩
  subst h'
  go_wp2_with (at_range; refine wpList_range_own _ rfl _ 49 rfl 9 57 Try.keyedStr Try.underlying49 valR bm _ D rfl (HH.out.alloc _).map ?_; intro w0 hrg0 hg0 hs0)
  have hR0 : (w'.alloc (.cells M 47)).ownsRow w'.heap.size 47 3 (.slice (some ⟨w'.heap.size, 0, none⟩) 0 fs.length) 0 [] := ⟨rfl, .inr ⟨w'.heap.size, fs.length, M, rfl, Nat.le_refl _, World.alloc_heap_new w' _, Nat.zero_le _, by unfold maxLen; omega, hMs, by simp⟩⟩
  have hR1 : w0.ownsRow w'.heap.size 47 3 (.slice (some ⟨w'.heap.size, 0, none⟩) 0 fs.length) 0 [] := hR0.kept hg0 (.inr (by simp [Value.ownBlock]))
  clear hln hmk
  obtain ⟨r, hr⟩ : ∃ r, (w'.alloc (.cells M 47)).heap.size = r := ⟨_, rfl⟩
  rw [hr] at hrg0 ⊢
  have hr' : r = w'.heap.size + 1 := by rw [← hr]; simp
  have HR := hid hr'
  clear hr hr'
  go_frame
  go_loopw [3] (fun a wr => ∃ left cnt gs, gs.Perm (gone left fs) ∧ wr.ranges Try.prog 9 valR bm r fs.length D left cnt ∧ wr.ownsRow w'.heap.size 47 3 a gs.length (flatF gs) ∧ (∃ g, a.ownBlock = some g) ∧ Below w'.heap.size w' wr) (fun _ wr => wr.rangeLeft bm r)
  case atStart =>
    refine ⟨Maps.has D, Maps.size D, [], by rw [gone_start (fun f hf => HH.out.has hf)], ?_, hR1, ⟨_, rfl⟩, ((Below.refl _ w').alloc (Nat.le_refl _) _).grown hg0 (by simp) (fun k hk => by cases hk)⟩
    exact hrg0
  case round =>
    obtain ⟨left, cnt, gs, hperm, hrg, hown, ⟨g, hgo⟩, hbel⟩ := hrel
    have HRG := hid hrg
    have HB := hid hbel
    have HP := hid hperm
    obtain ⟨ao', cap', hv'⟩ := own_sl hown
    subst hv'
    have HO := hid hown
    have HGO := hid hgo
    clear hrg hbel hrg0 hg0 hs0 hown hperm hR0 hR1 hgo
    go_wp2_with (first | (at_next; refine wpList_next_fs _ rfl _ rfl fs bm r fs.length D HH.out.look left cnt rfl HRG.out ?_ ?_) | fail)
    · intro _ hl
      have HE : Hid (gs.Perm fs) := by have := HP.out; rw [gone_end hl] at this; exact this
      clear hl
      have hgo := HGO.out
      obtain ⟨g', cap0, hao⟩ : ∃ g' cap0, Value.slice ao' gs.length cap' = .slice (some ⟨g', 0, none⟩) gs.length cap0 := by
        rcases HO.out.2 with ⟨e, _⟩ | ⟨g', c, _, e, _⟩
        · rw [e] at hgo
          cases hgo
        · exact ⟨g', c, e⟩
      cases hao
      have hgl : gs.length ≤ 64 := by rw [HE.out.length_eq]; exact hfew
      have hg0 := own_at HO.out g' rfl
      clear hgo
      go_wp2_with fail
      refine (sort_any HO.out hgl).mono ?_
      rintro e w2 ⟨rfl, hs, hp2, hso, hown2, hgr2⟩
      have HO2 := hid hown2
      have HP2 := hid hp2
      have HS2 := hid hso
      have HB2 : Hid (Below w'.heap.size w' w2) := HB.out.grown hgr2 HB.out.size (fun k hk => by cases hk; exact hg0)
      clear hown2 hgr2 hp2 hso
      go_wp2
      go_ret
      refine ⟨.slice (some ⟨g', 0, none⟩) gs.length cap', rfl, hs, HP2.out.trans HE.out, HS2.out, ?_, HB2.out⟩
      rw [← HE.out.length_eq]
      exact HO2.out
    · intro f w1 cnt1 hfm _ hlf hrg1 hlt hgr hsz hen
      have hsz0 := HB.out.size
      have HB1 : Hid (Below w'.heap.size w' w1) := HB.out.grown hgr hsz0 (fun k hk => by cases hk; have := HR.out; omega)
      have hfa := (HH.out.below HB1.out (Nat.le_refl _)).files f hfm
      obtain ⟨ao, cap, hv, hheld⟩ := flAt_held hfa
      have hcf := hfa.blk.cell (i := 0) rfl
      rw [hv] at hcf
      have hcs := hfa.blk.cell (i := 1) rfl
      have hcv := run_convert_held (P := Try.prog) hheld.drew 31 5 9 Try.underlying31 Try.underlying5 Try.underlying9
      have HST := hid (gone_step HH.out.names hfm hlf)
      have HO1 : Hid (w1.ownsRow w'.heap.size 47 3 (.slice ao' gs.length cap') gs.length (flatF gs)) := HO.out.kept hgr (.inr (row_not_iter HO.out HRG.out).1.symm)
      have HR1 := hid hrg1
      have HLT := hid hlt
      have hgl : gs.length ≤ 64 := by
        have h1 := HP.out.length_eq
        have h2 : (gone left fs).length ≤ fs.length := List.length_filter_le _ _
        omega
      have hs1 : w'.heap.size ≤ w1.heap.size := HB1.out.size
      clear hfa hv hrg1 hlt hgr hsz hfm hlf hheld hsz0
      go_wp2
      go_region_law ((refine step_append_lies _ (by rfl) _ _ 41 (by rfl) w'.heap.size 47 i0 (.agg #[.string ByteArray.empty, .string ByteArray.empty, .int .i64 0]) 3 40 Try.underlying41 hi hz0 hz1 hz2 rfl (by decide) (.slice ao' gs.length cap') gs.length (flatF gs) (by rfl) (by exact (HO1.out.alloc _).drew) ⟨w1.heap.size, 0, none⟩ 1 1 f.cells (by rfl) rfl (by exact cells_newF _ _) (fl_one f) (by decide) (by unfold maxLen; omega) (by omega) (by simp; omega) (w1.heap.size + 1) (by simp) ?_; intro g3 cap3 w3 hown3 hgrow3 hat3 hlt3; have HO3 := hid hown3; have HG3 := hid hgrow3; clear hown3 hgrow3))
      all_goals
        have hb4 : Below w'.heap.size w' w3 := (((HB1.out.alloc hs1 _).drew).grown HG3.out (by simp; omega) (own_at HO1.out))
        have hrow1 := row_not_iter HO1.out HR1.out
        have HB4 := hid hb4
        have HR4 : Hid (w3.ranges Try.prog 9 valR bm r fs.length D (fun z => left z && !z.sameKey (key f.name)) cnt1) := (ranges_drew (HR1.out.alloc _)).kept HG3.out hrow1.2 hrow1.1
        clear hb4 hrow1
        simp only [List.getElem_toArray, List.getElem_cons_succ, List.getElem_cons_zero]
        go_frame
        go_roundw
        case rel =>
          refine ⟨_, _, _, _, _, _, _, _, _, _, _, _, _, _, _, _, _, _, _, _, _, _, ⟨fun z => left z && !z.sameKey (key f.name), cnt1, gs ++ [f], ?_⟩, rfl⟩
          exact ⟨((HP.out.append_right [f]).trans HST.out.symm), HR4.out, by rw [flatF_snoc, List.length_append]; exact HO3.out, ⟨g3, rfl⟩, HB4.out⟩
        case measure => rw [HR4.out.left_eq, HRG.out.left_eq]; exact HLT.out
end
end Go.Proofs.Ytjfohnkfcfifeaa
