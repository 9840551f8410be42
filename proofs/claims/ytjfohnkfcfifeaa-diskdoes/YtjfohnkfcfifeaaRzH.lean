/-
  Package disk: Fork.
-/
import Derived.Test.YtjfohnkfcfifeaaRzG
import Derived.Deep.RegionHeld3
namespace Go.Proofs.Ytjfohnkfcfifeaa
open Go.RowKit Go.Maps
theorem run_makeMapZ (w : World) (n : Nat) : (Instr.makeMap 49 (some (.int .i64 (n : Int)))).run Try.prog w = .ok (.map (some w.heap.size)) (w.alloc (.map #[] 0)) := by
  rfl
theorem fork_step {w1 w5 : World} {bn : Nat} {fs' : List Fl} {D' : DataW Value} {f : Fl} {v : Value} (h1 : FilesAt w1 bn fs' D') (hb : Below w1.heap.size w1 w5) (hown : w5.ownsRow w1.heap.size 5 1 v f.bytes.length (nums f.bytes)) (hby : AllB f.bytes) (hsu : f.sure ≤ f.bytes.length) (hn : ffind fs' f.name = none) (hg : nameS f.name = true) (hl : fs'.length < 64) :
    ∃ w6, (Instr.mapUpdate 49 (.map (some bn)) (.string f.name) (.pointer (some ⟨w5.heap.size, 0, none⟩))).run Try.prog (w5.alloc (.cells #[v, .int .i64 f.sure] 60)) = .ok () w6 ∧ FilesAt w6 bn (fs' ++ [⟨f.name, w5.heap.size, v, f.bytes, f.sure⟩]) (D'.put (key f.name) (.held (.pointer (some ⟨w5.heap.size, 0, none⟩)))) ∧ (w5.alloc (.cells #[v, .int .i64 f.sure] 60)).grownBy w6 (some bn) := by
  have h6 : FilesAt (w5.alloc (.cells #[v, .int .i64 f.sure] 60)) bn fs' D' := (h1.below hb).below ((Below.refl _ w5).alloc (Nat.le_refl _) _)
  have hbl := h1.map.lt
  have hs5 := hb.size
  obtain ⟨w6, hrun, hown6, hmt⟩ := h6.map.store Try.keyedStr Try.underlying49 (by unfold maxLen; omega) (Try.keyStr (nameS_max hg)) (show valR (.pointer (some ⟨w5.heap.size, 0, none⟩)) = some _ from rfl)
  have hrow : (w5.alloc (.cells #[v, .int .i64 f.sure] 60)).ownsRow 0 5 1 v f.bytes.length (nums f.bytes) := (ownsRow_baseN hown (Nat.zero_le _)).alloc _
  have hnm := row_not_map hrow h6.map
  refine ⟨w6, hrun, h6.add (f := ⟨f.name, w5.heap.size, v, f.bytes, f.sure⟩) hn hg hl ⟨?_, hrow.kept hmt.grown (.inr hnm.symm), hby, hsu⟩ hown6 (Turns.of_grown hmt.grown (fun k hk => by cases hk; rfl)) ?_, hmt.grown⟩
  · refine (Blk.new w5 60 [v, .int .i64 f.sure]).kept hmt.grown ?_
    intro e
    cases e
    omega
  · intro g hg' i hi hf
    have h3 := (h1.files g hg').foot_lt i hi
    rcases hf with e | e
    · have e' : i = w5.heap.size := e
      omega
    · have h4 := (hown.lt i e).1
      omega
section
variable {w : World} {p bm : Nat} {size calls : Int} {fs : List Fl} {D : DataW Value}
set_option maxRecDepth 100000 in
set_option maxHeartbeats 2000000 in
theorem fork_any (h : DiskAt w p bm size calls fs D) :
    Calls Try.prog 8 #[.pointer (some ⟨p, 0, none⟩)] w fun e w' => ∃ p' bm' fs' D', e = .returned (.pointer (some ⟨p', 0, none⟩)) ∧ DiskAt w' p' bm' size calls fs' D' ∧ (fs'.map toRf).Perm (fs.map toRf) ∧ (∀ i, DFoot p' bm' fs' i → w.heap.size ≤ i) ∧ Below w.heap.size w w' := by
  have HCL := hid h.closed
  have hc0 := h.blk.cell (i := 0) rfl
  have hc1 := h.blk.cell (i := 1) rfl
  have hc2 := h.blk.cell (i := 2) rfl
  have HH := hid h
  have hln := h.map.len Try.underlying49 3
  rw [h.cnt] at hln
  have hfew := h.few
  have hpl := h.blk.lt
  have hmm := fun W => run_makeMapZ W fs.length
  clear h
  go_enter Try.func8, Try.ntmps8
  go_wp2_with fail
  refine HCL.out.mono ?_
  rintro e w' ⟨rfl, h'⟩
  subst h'
  go_wp2_with (at_range; refine wpList_range_own _ rfl _ 49 rfl 9 57 Try.keyedStr Try.underlying49 valR bm _ D rfl (HH.out.alloc _).map ?_; intro w0 hrg0 hg0 hs0)
  obtain ⟨r, hr⟩ : ∃ r, (w'.alloc (.map #[] 0)).heap.size = r := ⟨_, rfl⟩
  have hr' : r = w'.heap.size + 1 := by rw [← hr]; simp
  have HR := hid hr'
  obtain ⟨bn, hbn⟩ : ∃ bn, bn = w'.heap.size := ⟨_, rfl⟩
  have HBN := hid hbn
  have hfs0 : FilesAt (w'.alloc (.map #[] 0)) w'.heap.size [] (.map []) := ⟨World.ownsMap_made w' _ _ _, rfl, fun s => rfl, fun f hf => (by cases hf), .nil, .nil, fun f hf => (by cases hf), (by simp)⟩
  have HF0 : Hid (FilesAt w0 bn [] (.map [])) := by
    show FilesAt w0 bn [] _
    rw [hbn]
    exact hfs0.turned (F := fun _ => False) (Turns.of_grown hg0 (fun k hk => by cases hk)) (fun h => h) (fun _ hf => by cases hf)
  have HRG0 := hid hrg0
  have HB0 : Hid (Below w'.heap.size w' w0) := ((Below.refl _ w').alloc (Nat.le_refl _) _).grown hg0 (by simp) (fun k hk => by cases hk)
  rw [hr, ← hbn]
  rw [hr] at HRG0
  clear hln hmm hr hr' hfs0 hrg0 hg0 hs0 hbn
  go_frame
  go_loopw [4, 5] (fun _ _ wr => ∃ left cnt fs' D', (fs'.map toRf).Perm ((gone left fs).map toRf) ∧ wr.ranges Try.prog 9 valR bm r fs.length D left cnt ∧ FilesAt wr bn fs' D' ∧ (∀ f ∈ fs', ∀ i, f.Foot i → r < i) ∧ Below w'.heap.size w' wr) (fun _ _ wr => wr.rangeLeft bm r)
  case atStart =>
    exact ⟨Maps.has D, Maps.size D, [], .map [], by rw [gone_start (fun f hf => HH.out.has hf)], HRG0.out, HF0.out, (fun f hf => (by cases hf)), HB0.out⟩
  case round =>
    obtain ⟨left, cnt, fs', D', hperm, hrg, hfa', hfoot, hbel⟩ := hrel
    have HRG := hid hrg
    have HB := hid hbel
    have HP := hid hperm
    have HFA := hid hfa'
    have HFO := hid hfoot
    clear hrg hbel hperm hfa' hfoot HF0 HRG0 HB0
    go_wp2_with (first | (at_next; refine wpList_next_fs _ rfl _ rfl fs bm r fs.length D HH.out.look left cnt rfl HRG.out ?_ ?_) | fail)
    · intro _ hl
      have HE : Hid ((fs'.map toRf).Perm (fs.map toRf)) := by have := HP.out; rw [gone_end hl] at this; exact this
      clear hl
      have d0 := (HH.out.below HB.out (Nat.le_refl _)).blk.cell (i := 0) rfl
      have d2 := (HH.out.below HB.out (Nat.le_refl _)).blk.cell (i := 2) rfl
      have n0 := World.new_ne wr _ d0
      have HROOM : Hid ((total fs' : Int) ≤ size) := by
        show (total fs' : Int) ≤ size
        have h1 := rtotal_perm HE.out
        rw [rtotal_toRf, rtotal_toRf] at h1
        have h2 := HH.out.room
        omega
      have HEND : Hid (∀ q, ∃ bm' fs'' D'', DiskAt ((wr.alloc (.cells #[.int .i64 size, .map (some bn), .int .i64 calls] 51)).drewN q) wr.heap.size bm' size calls fs'' D'' ∧ (fs''.map toRf).Perm (fs.map toRf) ∧ (∀ i, DFoot wr.heap.size bm' fs'' i → w'.heap.size ≤ i) ∧ Below w'.heap.size w' ((wr.alloc (.cells #[.int .i64 size, .map (some bn), .int .i64 calls] 51)).drewN q)) := fun q => by
        have hbw : Below wr.heap.size wr ((wr.alloc (.cells #[.int .i64 size, .map (some bn), .int .i64 calls] 51)).drewN q) := below_dn ((Below.refl _ wr).alloc (Nat.le_refl _) _) q
        refine ⟨bn, fs', D', (HFA.out.below hbw).disk ((Blk.new wr 51 [.int .i64 size, .map (some bn), .int .i64 calls]).drewN q) HROOM.out HH.out.big HH.out.calls, HE.out, ?_, btN HB.out hbw⟩
        rintro i (e | e | ⟨f, hf, hi⟩)
        · rw [e]
          exact HB.out.size
        · rw [e, HBN.out]
          exact Nat.le_refl _
        · have h1 := HFO.out f hf i hi
          have h2 := HR.out
          omega
      go_wp2
      go_region_held3 (fun V => V.cell? ⟨p, 0, none⟩ = some (.int .i64 size) ∧ V.cell? ⟨p, 2, none⟩ = some (.int .i64 calls)) (first | (refine ⟨?_, ?_⟩ <;> assumption) | go_keep) (fail)
      all_goals
        go_wp2
        go_ret
        obtain ⟨bm', fs'', D'', e1, e2, e3, e4⟩ := HEND.out 1
        exact ⟨_, bm', fs'', D'', rfl, e1, e2, e3, e4⟩
    · intro f w1 cnt1 hfm _ hlf hrg1 hlt hgr hsz hen
      have hsz0 := HB.out.size
      have HB1 : Hid (Below w'.heap.size w' w1) := HB.out.grown hgr hsz0 (fun k hk => by cases hk; have := HR.out; omega)
      have hfa := (HH.out.below HB1.out (Nat.le_refl _)).files f hfm
      obtain ⟨ao, cap, hv, hheld⟩ := flAt_held hfa
      have hcf := hfa.blk.cell (i := 0) rfl
      rw [hv] at hcf
      have hcs := hfa.blk.cell (i := 1) rfl
      have HHD := hid hheld
      have HRG1 := hid hrg1
      have HLT := hid hlt
      have HST := hid (gone_step HH.out.names hfm hlf)
      have HBY : Hid (AllB f.bytes) := hfa.byte
      have HSU : Hid (f.sure ≤ f.bytes.length) := hfa.sure
      have hbl : f.bytes.length ≤ 268435456 := by have h1 := total_mem hfm; have h2 := HH.out.room; have h3 := HH.out.big; omega
      have HGD : Hid (nameS f.name = true) := HH.out.good f hfm
      have HNF : Hid (ffind fs' f.name = none) := ffind_noneZ.2 (fun g hg e => by
        have h1 := HP.out.subset (List.mem_map.2 ⟨g, hg, rfl⟩)
        obtain ⟨q, hq, hqe⟩ := List.mem_map.1 h1
        have h2 : q.name = f.name := by rw [← toRf_name q, hqe, toRf_name]; exact e
        have h3 := (List.mem_filter.1 hq).2
        rw [h2, hlf] at h3
        cases h3)
      have HLEN : Hid (fs'.length < 64) := by
        show fs'.length < 64
        have h1 := HP.out.length_eq
        have h2 := HST.out.length_eq
        have h3 : (gone (fun z => left z && !z.sameKey (key f.name)) fs).length ≤ fs.length := List.length_filter_le _ _
        simp at h1 h2
        omega
      have hne : bn ≠ r := by have := HR.out; have := HBN.out; omega
      have HFA1 : Hid (FilesAt w1 bn fs' D') := HFA.out.turned (F := fun i => i = r) (Turns.of_grown hgr (fun k hk => by cases hk; rfl)) hne (fun g hg i hi e => by have := HFO.out g hg i hi; omega)
      have HBP : Hid (bm < bn ∧ r = bn + 1) := ⟨by rw [HBN.out]; exact HH.out.map.lt, by rw [HBN.out]; exact HR.out⟩
      have hfp : f.ptr < w1.heap.size := hfa.blk.lt
      have n1 := World.new_ne w1 _ hcs
      have HR1S : Hid (r < w1.heap.size) := HRG1.out.lt
      have hfb : f.ptr < bn := by rw [HBN.out]; exact (HH.out.files f hfm).blk.lt
      have HCC : Hid (∀ (w5 w6 : World) (o : Obj) (i : Nat) (u : Value), Below w1.heap.size w1 w5 → (w5.alloc o).grownBy w6 (some bn) → w5.cell? ⟨f.ptr, i, none⟩ = some u → w6.cell? ⟨f.ptr, i, none⟩ = some u) := fun w5 w6 o i u hb hg hu => by
        have h5 : f.ptr < w5.heap.size := Nat.lt_of_lt_of_le hfp hb.size
        exact (World.cell?_of_block (a := ⟨f.ptr, i, none⟩) (hg.block f.ptr (by rw [World.size_alloc]; omega) (by intro e; cases e; omega))).trans ((World.cell?_alloc_past _ _ _ h5).trans hu)
      clear hfa hv hrg1 hlt hgr hsz hfm hlf hheld hsz0 hne hfb
      go_wp2
      go_region_held3 (fun V => V.cell? ⟨f.ptr, 0, none⟩ = some (.slice ao f.bytes.length cap) ∧ V.cell? ⟨f.ptr, 1, none⟩ = some (.int .i64 f.sure)) (first | (refine ⟨?_, ?_⟩ <;> assumption) | go_keep)
        (first
          | (go_at_call 19; refine (cloneB_any _ ao f.bytes.length cap f.bytes (by first | with_reducible exact HHD.out | with_reducible exact HHD.out.drew | with_reducible exact HHD.out.drawn _) (by omega)).mono ?_; rintro e w5 ⟨v, rfl, hown5, hb5⟩; have hb5' : Below w1.heap.size w1 w5 := below_from_drew hb5; have x0 := (hb5'.cell (p := ⟨f.ptr, 0, none⟩) hfp).trans hcf; have x1 := (hb5'.cell (p := ⟨f.ptr, 1, none⟩) hfp).trans hcs; obtain ⟨vo, vc, hvv, _⟩ := own_formFr hown5; subst hvv; obtain ⟨w6, hrun, hf6, hg6⟩ := fork_step HFA1.out hb5' hown5 HBY.out HSU.out HNF.out HGD.out HLEN.out; have HF6 := hid hf6; have HG6 := hid hg6; have HB5 := hid hb5'; have HO5 := hid hown5; have n5 := World.new_ne w5 _ x1; have x6 : w6.cell? ⟨f.ptr, 0, none⟩ = some (.slice ao f.bytes.length cap) := HCC.out w5 w6 _ 0 _ hb5' hg6 x0; have x7 : w6.cell? ⟨f.ptr, 1, none⟩ = some (.int .i64 f.sure) := HCC.out w5 w6 _ 1 _ hb5' hg6 x1; clear hb5 hb5' hown5 hf6 hg6))
      all_goals
        have HRG6 : Hid (w6.ranges Try.prog 9 valR bm r fs.length D (fun z => left z && !z.sameKey (key f.name)) cnt1) := ((HRG1.out.kept (show w1.grownBy w5 none from ⟨HB5.out.os, HB5.out.tape, HB5.out.output, HB5.out.size, fun k hk _ => HB5.out.block k hk⟩) (by simp) (by simp)).alloc _).kept HG6.out (by have := HBP.out; intro e; cases e; omega) (by have := HBP.out; intro e; cases e; omega)
        have HB6 : Hid (Below w'.heap.size w' w6) := ((btN HB1.out HB5.out).alloc (Nat.le_trans HB1.out.size HB5.out.size) _).grown HG6.out (by have h1 := HB1.out.size; have h2 := HB5.out.size; rw [World.size_alloc]; omega) (fun k hk => by cases hk; rw [HBN.out]; exact Nat.le_refl _)
        have HP6 : Hid (((fs' ++ [(⟨f.name, w5.heap.size, .slice vo f.bytes.length vc, f.bytes, f.sure⟩ : Fl)]).map toRf).Perm ((gone (fun z => left z && !z.sameKey (key f.name)) fs).map toRf)) := by
          have h1 := HST.out.map toRf
          rw [List.map_append] at h1
          show (List.map toRf _).Perm _
          rw [List.map_append]
          exact (HP.out.append_right [toRf f]).trans h1.symm
        have HFO6 : Hid (∀ g ∈ fs' ++ [(⟨f.name, w5.heap.size, .slice vo f.bytes.length vc, f.bytes, f.sure⟩ : Fl)], ∀ i, g.Foot i → r < i) := fun g hg i hi => by
          rcases List.mem_append.1 hg with h | h
          · exact HFO.out g h i hi
          · have e : g = (⟨f.name, w5.heap.size, .slice vo f.bytes.length vc, f.bytes, f.sure⟩ : Fl) := by simpa using h
            subst e
            have h1 := HR1S.out
            rcases hi with e | e
            · have e' : i = w5.heap.size := e
              have h2 := HB5.out.size
              omega
            · have h2 := (HO5.out.lt i e).1
              have h3 : w1.heap.size ≤ i := h2
              omega
        go_roundw
        case rel => exact ⟨_, _, _, _, _, _, _, _, _, _, _, _, _, _, _, _, _, _, _, _, ⟨_, cnt1, _, _, HP6.out, HRG6.out, HF6.out, HFO6.out, HB6.out⟩, rfl⟩
        case measure => rw [HRG6.out.left_eq, HRG.out.left_eq]; exact HLT.out
end
end Go.Proofs.Ytjfohnkfcfifeaa
