/-
  Package disk: Append to a new file.
-/
import Derived.Test.YtjfohnkfcfifeaaDiskG
namespace Go.Proofs.Ytjfohnkfcfifeaa
open Go.RowKit Go.Maps

theorem ffind_snoc (fs : List Fl) (f : Fl) (hn : ffind fs f.name = none) (t : ByteArray) : ffind (fs ++ [f]) t = if t = f.name then some f else ffind fs t := by
  unfold ffind at *
  rw [List.find?_append]
  by_cases h : t = f.name
  · subst h
    rw [hn, if_pos rfl]
    simp
  · rw [if_neg h]
    have : [f].find? (fun g => decide (g.name = t)) = none := by
      have : ¬ f.name = t := fun e => h e.symm
      simp [this]
    rw [this]
    simp
theorem ffind_none {fs : List Fl} {s : ByteArray} (h : ffind fs s = none) : ∀ g ∈ fs, g.name ≠ s := fun g hg => by simpa using List.find?_eq_none.1 h g hg
theorem total_snoc : ∀ (fs : List Fl) (f : Fl), total (fs ++ [f]) = total fs + f.bytes.length
  | [], f => by simp [total]
  | g :: r, f => by
    rw [List.cons_append, total, total, total_snoc r f]
    omega

section
variable {w w' : World} {p bm : Nat} {size calls : Int} {fs : List Fl} {D : DataW Value}
theorem DiskAt.mapObj (h : DiskAt w p bm size calls fs D) : ∃ es clk, w.heap[bm]? = some (.map es clk) ∧ es.size = fs.length := by
  have hc := h.cnt
  obtain ⟨es, clk, hb, _, _, rfl⟩ := h.map
  refine ⟨es, clk, hb, ?_⟩
  simpa [Maps.size, length_sorted] using hc

theorem DiskAt.addF (h : DiskAt w p bm size calls fs D) {f : Fl} (hf : ffind fs f.name = none) (hg : nameS f.name = true) (hfew : fs.length < 64) (hat : FlAt w' f) (hmap : w'.ownsMap Try.prog 9 valR bm (fs.length + 1) (D.put (key f.name) (.held f.at))) (ht : Turns (fun i => i = bm) w w') (hF : ∀ i, f.Foot i → w.heap.size ≤ i) (hroom : (total fs : Int) + f.bytes.length ≤ size) :
    DiskAt w' p bm size calls (fs ++ [f]) (D.put (key f.name) (.held f.at)) := by
  have hkl : WideAt.IsKeyLit (key f.name) := by simp [key, WideAt.IsKeyLit]
  have hhas : Maps.has D (key f.name) = false := by rw [has_look (allHeld_of h.map), h.look, hf]; rfl
  refine ⟨ht.blk h.blk h.p_m, ?_, ?_, fun s => ?_, fun g hg => ?_, ?_, ?_, fun g hg' => ?_, ?_, ?_, h.big, h.calls⟩
  · simpa using hmap
  · rw [size_put (h.map.tidy Try.keyedStr), hhas, h.cnt]
    simp
  · rw [ffind_snoc fs f hf]
    by_cases e : s = f.name
    · subst e
      rw [if_pos rfl, look_put_same h.map.isMap hkl]
      rfl
    · rw [if_neg e, look_put_other (fun e' => e (key_inj e')), h.look]
  · rcases List.mem_append.1 hg with hg | hg
    · exact (h.files g hg).turned ht (fun i hi e => h.own_m hg (by rw [← e]; exact hi))
    · simp at hg
      subst hg
      exact hat
  · rw [List.pairwise_append]
    refine ⟨h.apart, by simp, fun a ha b hb i hi hbi => ?_⟩
    simp at hb
    subst hb
    have h1 := (h.files a ha).foot_lt i hi
    have h2 := hF i hbi
    omega
  · rw [List.pairwise_append]
    refine ⟨h.names, by simp, fun a ha b hb => ?_⟩
    simp at hb
    subst hb
    exact ffind_none hf a ha
  · rcases List.mem_append.1 hg' with hg' | hg'
    · exact h.good g hg'
    · simp at hg'
      subst hg'
      exact hg
  · simp
    omega
  · rw [total_snoc]
    omega
theorem Now.added (h : DiskAt w p bm size calls fs D) {f : Fl} (hf : ffind fs f.name = none) (hg : nameS f.name = true) (hfew : fs.length < 64) (hat : FlAt w' f) (hmap : w'.ownsMap Try.prog 9 valR bm (fs.length + 1) (D.put (key f.name) (.held f.at))) (ht : Turns (fun i => i = bm) w w') (hF : ∀ i, f.Foot i → w.heap.size ≤ i) (hroom : (total fs : Int) + f.bytes.length ≤ size) :
    Now w w' p bm size calls fs (fs ++ [f]) := by
  refine ⟨_, h.addF hf hg hfew hat hmap ht hF hroom, ht.mono (fun i hi => .inr (.inl hi)), ?_⟩
  rintro i (e | e | ⟨g, hg, hi⟩)
  · exact .inl (.inl e)
  · exact .inl (.inr (.inl e))
  · rcases List.mem_append.1 hg with hg | hg
    · exact .inl (.inr (.inr ⟨g, hg, hi⟩))
    · simp at hg
      subst hg
      exact .inr (hF i hi)

theorem Held.mapped {ao : Option Addr} {len cap : Nat} {bs : List Int} (h : Held w ao len cap bs) (hm : w.mapTurned w' bm) : Held w' ao len cap bs := by
  obtain ⟨es, clock, es', clock', hb, _⟩ := id hm
  have hg := hm.grown
  refine ⟨h.hlen, h.hcap, h.hmax, h.nil, h.byte, fun ad ha j hj => ?_, fun ad ha hp => Nat.lt_of_lt_of_le (h.old ad ha hp) hg.size⟩
  have hc := h.cell ad ha j hj
  have hlt := World.block_lt_of_cell? w _ hc
  have hne : some (ad.add j).block ≠ some bm := by
    intro e
    have e1 : (ad.add j).block = bm := by simpa using e
    rw [World.cell?, e1, hb] at hc
    cases hc
  rw [World.cell?_of_block (hg.block _ hlt hne)]
  exact hc

theorem nameS_small {s : ByteArray} (h : nameS s = true) : s.size ≤ 140737488355328 := by
  unfold nameS at h
  simp at h
  omega

/-- Behind the call of Clone: the map takes the new file. -/
theorem append_new_store {w3 w5 : World} {s : ByteArray} (h3 : DiskAt w3 p bm size calls fs D) (hs : s.size ≤ maxLen) (hfew : fs.length < 64) (hb5 : Below (w3.alloc (.cells #[.slice none 0 0, .int .i64 0] 60)).drew.heap.size (w3.alloc (.cells #[.slice none 0 0, .int .i64 0] 60)).drew w5) :
    ∃ w6, (Instr.mapUpdate 49 (.map (some bm)) (.string s) (.pointer (some ⟨w3.heap.size, 0, none⟩))).run Try.prog w5 = .ok () w6 ∧ w6.ownsMap Try.prog 9 valR bm (fs.length + 1) (D.put (key s) (.held (.pointer (some ⟨w3.heap.size, 0, none⟩)))) ∧ w5.mapTurned w6 bm := by
  have h5 : DiskAt w5 p bm size calls fs D := (h3.alloc _).drew.below hb5 (Nat.le_refl _)
  exact h5.map.store Try.keyedStr Try.underlying49 (by unfold maxLen; omega) (Try.keyStr hs) rfl
theorem append_new_end {w3 w5 w6 w7 : World} {s : ByteArray} {bo : Option Addr} {cp len : Nat} {bs : List Int} (h3 : DiskAt w3 p bm size calls fs D) (hb : Below w.heap.size w w3) (hf : ffind fs s = none) (hg : nameS s = true) (hfew : fs.length < 64)
    (hb5 : Below (w3.alloc (.cells #[.slice none 0 0, .int .i64 0] 60)).drew.heap.size (w3.alloc (.cells #[.slice none 0 0, .int .i64 0] 60)).drew w5) (hm : w5.mapTurned w6 bm) (hown6 : w6.ownsMap Try.prog 9 valR bm (fs.length + 1) (D.put (key s) (.held (.pointer (some ⟨w3.heap.size, 0, none⟩)))))
    (hblk : Blk w7 w3.heap.size 60 [.slice none 0 0, .int .i64 0]) (hown : w7.ownsRow 0 5 1 (.slice bo (0 + len) cp) (0 + len) (nums ([] ++ bs))) (hgr : Grew w6.drew w7 (.slice none 0 0) (.slice bo (0 + len) cp))
    (hl : bs.length = len) (hbs : AllB bs) (hroom : (total fs : Int) + len ≤ size) :
    Now w (w7.setCell ⟨w3.heap.size, 0, none⟩ (.slice bo (0 + len) cp)) p bm size calls fs (fs ++ [⟨s, w3.heap.size, .slice bo (0 + len) cp, bs, 0⟩]) := by
  have t5 : Turns (fun i => i = bm) w3 w5 := ((Turns.refl _ w3).alloc _).drew.trans (Turns.of_below (F := fun i => i = bm) hb5 (Nat.le_refl _)) (fun i hi => .inl hi)
  have t6 : Turns (fun i => i = bm) w3 w6 := t5.grown hm.grown (fun k hk => .inl (by cases hk; rfl))
  have t7 : Turns (fun i => i = bm) w3 w7 := t6.drew.grown hgr.1 (fun k hk => by cases hk)
  have t8 : Turns (fun i => i = bm) w3 (w7.setCell ⟨w3.heap.size, 0, none⟩ (.slice bo (0 + len) cp)) := t7.setCell (p := ⟨w3.heap.size, 0, none⟩) (.inr (Nat.le_refl _)) _
  have hpr : some w3.heap.size ≠ (Value.slice bo (0 + len) cp).ownBlock := hblk.not_row (by decide) hown
  have hmlt := h3.map.lt
  have hmap : (w7.setCell ⟨w3.heap.size, 0, none⟩ (.slice bo (0 + len) cp)).ownsMap Try.prog 9 valR bm (fs.length + 1) (D.put (key s) (.held (.pointer (some ⟨w3.heap.size, 0, none⟩)))) :=
    (hown6.drew.kept hgr.1 (by intro e; cases e)).setCell (by show bm ≠ w3.heap.size; omega) _
  refine (Now.added h3 (f := ⟨s, w3.heap.size, .slice bo (0 + len) cp, bs, 0⟩) hf hg hfew ?_ hmap t8 ?_ (by simpa [hl] using hroom)).ahead hb
  · refine ⟨hblk.set 0 _, ?_, hbs, Nat.zero_le _⟩
    have := hown.kept (grownBy_setIn w7 w3.heap.size 0 (.slice bo (0 + len) cp)) (.inr hpr.symm)
    simpa [hl] using this
  · rintro i (e | e)
    · rw [e]
      exact Nat.le_refl _
    · rcases hgr.2 with h1 | ⟨k, h1, hk⟩
      · rw [h1] at e
        cases e
      · rw [h1] at e
        cases e
        exact Nat.le_trans t6.size hk

set_option maxRecDepth 100000 in
set_option maxHeartbeats 4000000 in
theorem append1_new (h : DiskAt w p bm size calls fs D) (s : ByteArray) (hs : s.size ≤ maxLen) (hg : nameS s = true) (hf : ffind fs s = none) (hfew : fs.length < 64) (n : Nat) (ao : Option Addr) (len cap : Nat) (bs : List Int) (hB : Held w ao len cap bs)
    (hd : Blk w n 23 [.pointer (some ⟨p, 0, none⟩)]) (hn : Blk w (n + 1) 9 [.string s]) (hb : Blk w (n + 2) 31 [.slice ao len cap]) (hroom : (total fs : Int) + len ≤ size) :
    Calls Try.prog 21 #[.pointer (some ⟨n, 0, none⟩), .pointer (some ⟨n + 1, 0, none⟩), .pointer (some ⟨n + 2, 0, none⟩)] w fun e w' => e = .returned (.int .i64 0) ∧ ∃ q v', Now w w' p bm size calls fs (fs ++ [⟨s, q, v', bs, 0⟩]) := by
  obtain ⟨i0, hi, hz0, hz1, hz2⟩ := info_parts Try.info5
  have hc1 := h.blk.cell (i := 1) rfl
  have hlk := dlook h.drew hs
  rw [hf] at hlk
  simp only [Option.map_none, Option.getD_none] at hlk
  have hd0 := hd.cell (i := 0) rfl
  have hn0 := hn.cell (i := 0) rfl
  have hb0 := hb.cell (i := 0) rfl
  have HD := hid hd
  have HN := hid hn
  have HBb := hid hb
  have HH := hid h
  have HHB := hid hB
  have hle : decide (size - (total fs : Int) < (len : Int)) = false := by rw [decide_eq_false_iff_not]; omega
  have HF := hid hf
  have hpl := h.blk.lt
  clear h hf hd hn hb hB
  go_enter Try.func21, Try.ntmps21
  go_wp2
  go_region_held3 (fun V => V.cell? ⟨n, 0, none⟩ = some (.pointer (some ⟨p, 0, none⟩)) ∧ V.cell? ⟨n + 1, 0, none⟩ = some (.string s) ∧ V.cell? ⟨p, 1, none⟩ = some (.map (some bm)) ∧ (Instr.lookup 49 (.map (some bm)) (.string s) false).run Try.prog V = .ok (.pointer none) V) (first | go_keep | (refine ⟨?_, ?_, ?_, ?_⟩ <;> assumption)) (fail)
  go_wp2
  clear hlk
  have hln0 := HH.out.drew.drew.map.len Try.underlying49 3
  rw [HH.out.cnt] at hln0
  have hesd : decide ((64 : Int) ≤ (fs.length : Int)) = false := by rw [decide_eq_false_iff_not]; omega
  have hc1' : w.drew.drew.cell? ⟨p, 1, none⟩ = some (.map (some bm)) := hc1
  have hd0' : w.drew.drew.cell? ⟨n, 0, none⟩ = some (.pointer (some ⟨p, 0, none⟩)) := hd0
  have hb0' : w.drew.drew.cell? ⟨n + 2, 0, none⟩ = some (.slice ao len cap) := hb0
  go_region_held3 (fun V => V.cell? ⟨n, 0, none⟩ = some (.pointer (some ⟨p, 0, none⟩)) ∧ V.cell? ⟨n + 2, 0, none⟩ = some (.slice ao len cap) ∧ V.cell? ⟨p, 1, none⟩ = some (.map (some bm)) ∧ (Builtin.len_ #[49] 3 #[.map (some bm)]).run Try.prog V = .ok (.int .i64 fs.length) V) (first | (refine ⟨?_, ?_, ?_, ?_⟩ <;> assumption) | go_keep)
    (first | (go_at_call 17; refine (left_any HH.out.drew.drew).mono ?_; rintro e w3 ⟨rfl, hbel⟩; have HB3 := hid hbel; have HD3 := hid (HH.out.drew.drew.below hbel (Nat.le_refl _)); have hln := HD3.out.map.len Try.underlying49 3; rw [HD3.out.cnt] at hln; have hx0 : w3.cell? ⟨n, 0, none⟩ = some (.pointer (some ⟨p, 0, none⟩)) := (hbel.cell (p := ⟨n, 0, none⟩) (by simpa using HD.out.lt)).trans hd0; have hx1 : w3.cell? ⟨n + 2, 0, none⟩ = some (.slice ao len cap) := (hbel.cell (p := ⟨n + 2, 0, none⟩) (by simpa using HBb.out.lt)).trans hb0; have hx2 : w3.cell? ⟨p, 1, none⟩ = some (.map (some bm)) := (hbel.cell (p := ⟨p, 1, none⟩) (by simpa using hpl)).trans hc1; clear hbel))
  all_goals
    have HB4 : Hid (Below w.heap.size w w3) := (drew_below w).trans ((drew_below w.drew).trans HB3.out)
    have hn3 : w3.cell? ⟨n + 1, 0, none⟩ = some (.string s) := (HN.out.below HB4.out HN.out.lt).cell (i := 0) rfl
    have hnl : n < w3.heap.size := Nat.lt_of_lt_of_le HD.out.lt HB4.out.size
    have hnl1 : n + 1 < w3.heap.size := Nat.lt_of_lt_of_le HN.out.lt HB4.out.size
    have hnl2 : n + 2 < w3.heap.size := Nat.lt_of_lt_of_le HBb.out.lt HB4.out.size
    have hpl3 : p < w3.heap.size := Nat.lt_of_lt_of_le hpl HB4.out.size
    have hll : len ≤ 268435456 := by have h3 := HH.out.big; omega
    have HH3 : Hid (Held w3 ao len cap bs) := HHB.out.below HB4.out (Nat.le_refl _)
    have hs' : s.size ≤ 140737488355328 := nameS_small hg
    clear hd0 hn0 hb0 hc1 hln hln0 hc1' hd0' hb0'
    go_wp2
    have u0 : (w3.alloc (.cells #[.slice none 0 0, .int .i64 0] 60)).drew.cell? ⟨n, 0, none⟩ = some (.pointer (some ⟨p, 0, none⟩)) := (World.cell?_alloc_past _ _ _ hnl).trans hx0
    have u1 : (w3.alloc (.cells #[.slice none 0 0, .int .i64 0] 60)).drew.cell? ⟨n + 1, 0, none⟩ = some (.string s) := (World.cell?_alloc_past _ _ _ hnl1).trans hn3
    have u2 : (w3.alloc (.cells #[.slice none 0 0, .int .i64 0] 60)).drew.cell? ⟨p, 1, none⟩ = some (.map (some bm)) := (World.cell?_alloc_past _ _ _ hpl3).trans hx2
    go_region_held3 (fun V => V.cell? ⟨n, 0, none⟩ = some (.pointer (some ⟨p, 0, none⟩)) ∧ V.cell? ⟨n + 1, 0, none⟩ = some (.string s) ∧ V.cell? ⟨p, 1, none⟩ = some (.map (some bm))) (first | (refine ⟨?_, ?_, ?_⟩ <;> assumption) | go_keep)
      (first | (go_at_call 22; refine (clone_any s _ hs').mono ?_; rintro e w5 ⟨rfl, hbel⟩; obtain ⟨w6, hrun, hown6, hmt⟩ := append_new_store HD3.out hs hfew hbel; have HB5 := hid hbel; have HO6 := hid hown6; have HM6 := hid hmt; have y0 : w5.cell? ⟨n, 0, none⟩ = some (.pointer (some ⟨p, 0, none⟩)) := (hbel.cell (p := ⟨n, 0, none⟩) (by simp; omega)).trans u0; have y1 : w5.cell? ⟨n + 1, 0, none⟩ = some (.string s) := (hbel.cell (p := ⟨n + 1, 0, none⟩) (by simp; omega)).trans u1; have y2 : w5.cell? ⟨p, 1, none⟩ = some (.map (some bm)) := (hbel.cell (p := ⟨p, 1, none⟩) (by simp; omega)).trans u2; have hbm := HD3.out.map.lt; have hpm := HD3.out.p_m; have z0 : w6.cell? ⟨n, 0, none⟩ = some (.pointer (some ⟨p, 0, none⟩)) := (World.cell?_of_block (hmt.grown.block n (by have := hbel.size; simp at this; omega) (by intro e; cases e; exact (HD.out.below HB4.out HD.out.lt).not_map HD3.out.map rfl))).trans y0; have z1 : w6.cell? ⟨n + 1, 0, none⟩ = some (.string s) := (World.cell?_of_block (hmt.grown.block (n + 1) (by have := hbel.size; simp at this; omega) (by intro e; cases e; exact (HN.out.below HB4.out HN.out.lt).not_map HD3.out.map rfl))).trans y1; have z2 : w6.cell? ⟨p, 1, none⟩ = some (.map (some bm)) := (World.cell?_of_block (hmt.grown.block p (by have := hbel.size; simp at this; omega) (by intro e; cases e; exact hpm rfl))).trans y2; clear hbel hown6 hmt hbm hpm))
  all_goals
    have HBK6 : Hid (Blk w6 w3.heap.size 60 [.slice none 0 0, .int .i64 0]) := (((Blk.new w3 60 [.slice none 0 0, .int .i64 0]).drew.below HB5.out (by simp)).kept HM6.out.grown (by have h1 := HD3.out.map.lt; intro e; cases e; omega))
    have c6 := HBK6.out.cell (i := 0) rfl
    have f6 := HBK6.out.frozen 0
    have cb6 : w6.cell? ⟨n + 2, 0, none⟩ = some (.slice ao len cap) := (((((HBb.out.below HB4.out HBb.out.lt).alloc _).drew.below HB5.out (by simp; omega)).kept HM6.out.grown (by intro e; cases e; exact (HBb.out.below HB4.out HBb.out.lt).not_map HD3.out.map rfl))).cell (i := 0) rfl
    have HH6 : Hid (Held w6 ao len cap bs) := ((HH3.out.below ((Below.refl _ w3).alloc (Nat.le_refl _) _) (Nat.le_refl _)).drew.below HB5.out (Nat.le_refl _)) |>.mapped HM6.out
    clear hrun y0 y1 y2 z0 z1 z2 u0 u1 u2 hx0 hx1 hx2 hn3
    go_wp2
    go_region_law ((refine step_append_grew (by rfl) _ _ 31 (by rfl) 0 5 i0 Try.underlying31 hi hz0 hz1 hz2 (.slice none 0 0) 0 [] (by rfl) (by exact World.ownsRow_nil _ _ _ _) (fun c hc => by cases hc) ao len cap bs (by rfl) (by exact HH6.out.drew) (by omega) (Nat.zero_le _) ?_; intro bo cp w7 hown7 hgr7; have HO7 := hid hown7; have HG7 := hid hgr7; have hblk7 := HBK6.out.drew.kept hgr7.1 (by simp [Value.ownBlock]); have HK7 := hid hblk7; have c7 := hblk7.cell (i := 0) rfl; have f7 := hblk7.frozen 0; clear hown7 hgr7 hblk7))
    all_goals
      go_wp2
      go_ret
      refine ⟨rfl, w3.heap.size, .slice bo (0 + len) cp, ?_⟩
      have hz : w7.setCell ⟨w3.heap.size, 0, none⟩ (.slice bo len cp) = w7.setCell ⟨w3.heap.size, 0, none⟩ (.slice bo (0 + len) cp) := by rw [Nat.zero_add]
      rw [hz]
      exact append_new_end HD3.out HB4.out HF.out hg hfew HB5.out HM6.out HO6.out HK7.out HO7.out HG7.out HHB.out.hlen HHB.out.byte hroom
end
end Go.Proofs.Ytjfohnkfcfifeaa
