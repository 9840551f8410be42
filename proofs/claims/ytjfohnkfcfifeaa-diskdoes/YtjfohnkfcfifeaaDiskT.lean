/-
  Package disk: Rename at any input.
-/
import Derived.Test.YtjfohnkfcfifeaaDiskS
import Derived.Test.YtjfohnkfcfifeaaDiskH
namespace Go.Proofs.Ytjfohnkfcfifeaa
open Go.RowKit Go.Maps

section
variable {w : World} {p bm : Nat} {size calls : Int} {fs : List Fl} {D : DataW Value}
theorem ren_end {w2 w5 w6 : World} {s t : ByteArray} {f : Fl} (h : DiskAt w p bm size calls fs D) (hf : ffind fs s = some f) (hg : nameS t = true) (hm : w.drew.drew.mapTurned w2 bm) (hown : w2.ownsMap Try.prog 9 valR bm fs.length (D.del (key s))) (hb : Below w2.drew.heap.size w2.drew w5) (hm6 : w5.mapTurned w6 bm) (hown6 : w6.ownsMap Try.prog 9 valR bm (fs.length + 1) ((D.del (key s)).put (key t) (.held f.at))) :
    Now w w6 p bm size calls fs (renF fs f s t) := by
  have t2 : Turns (fun i => i = bm) w w2 := (Turns.refl _ w).drew.drew.grown hm.grown (fun k hk => by cases hk; exact .inl rfl)
  have t6 : Turns (fun i => i = bm) w w6 := (t2.drew.trans (Turns.of_below (F := fun i => i = bm) hb (Nat.le_refl _)) (fun i hi => .inl hi)).grown hm6.grown (fun k hk => by cases hk; exact .inl rfl)
  refine ⟨_, diskAt_ren h hf hg t6 hown6 (hown.tidy Try.keyedStr) (allHeld_of hown) hown.isMap, t6.mono (fun i hi => .inr (.inl hi)), ?_⟩
  rintro i (e | e | ⟨g, hgm, hi⟩)
  · exact .inl (.inl e)
  · exact .inl (.inr (.inl e))
  · rcases List.mem_append.1 hgm with hg' | hg'
    · exact .inl (.inr (.inr ⟨g, (mem_delF (mem_delF hg').1).1, hi⟩))
    · simp at hg'
      subst hg'
      exact .inl (.inr (.inr ⟨f, (ffind_mem hf).1, hi⟩))

set_option maxRecDepth 100000 in
set_option maxHeartbeats 4000000 in
theorem rename1_ok (h : DiskAt w p bm size calls fs D) (s t : ByteArray) (hs : s.size ≤ maxLen) (hg : nameS t = true) {f : Fl} (hf : ffind fs s = some f) (n : Nat)
    (hd : Blk w n 23 [.pointer (some ⟨p, 0, none⟩)]) (hn : Blk w (n + 1) 9 [.string s]) (hb : Blk w (n + 2) 9 [.string t]) :
    Calls Try.prog 54 #[.pointer (some ⟨n, 0, none⟩), .pointer (some ⟨n + 1, 0, none⟩), .pointer (some ⟨n + 2, 0, none⟩)] w fun e w' => e = .returned (.int .i64 0) ∧ Now w w' p bm size calls fs (renF fs f s t) := by
  have hc1 : w.drew.cell? ⟨p, 1, none⟩ = some (.map (some bm)) := h.blk.cell (i := 1) rfl
  have hlk := dlook h.drew hs
  rw [hf] at hlk
  simp only [Option.map_some, Option.getD_some, Fl.at] at hlk
  have hep := fun W => eql_ptr_nil W f.ptr
  have hd0 : w.drew.cell? ⟨n, 0, none⟩ = some (.pointer (some ⟨p, 0, none⟩)) := hd.cell (i := 0) rfl
  have hn0 : w.drew.cell? ⟨n + 1, 0, none⟩ = some (.string s) := hn.cell (i := 0) rfl
  have hb0 : w.drew.cell? ⟨n + 2, 0, none⟩ = some (.string t) := hb.cell (i := 0) rfl
  obtain ⟨w2, hrun2, hown2, hmt2⟩ := h.drew.drew.map.drop Try.keyedStr Try.underlying49 (Try.keyStr hs) 0
  have hc1' : w.drew.drew.cell? ⟨p, 1, none⟩ = some (.map (some bm)) := hc1
  have hd0' : w.drew.drew.cell? ⟨n, 0, none⟩ = some (.pointer (some ⟨p, 0, none⟩)) := hd0
  have hn0' : w.drew.drew.cell? ⟨n + 1, 0, none⟩ = some (.string s) := hn0
  have hc2 := cell_mapped hc1' hmt2
  have hd2 := cell_mapped hd0' hmt2
  have hn2 := cell_mapped hn0' hmt2
  have hb2 := cell_mapped (show w.drew.drew.cell? ⟨n + 2, 0, none⟩ = some (.string t) from hb0) hmt2
  have hc3 : w2.drew.cell? ⟨p, 1, none⟩ = some (.map (some bm)) := hc2
  have hd3 : w2.drew.cell? ⟨n, 0, none⟩ = some (.pointer (some ⟨p, 0, none⟩)) := hd2
  have hb3 : w2.drew.cell? ⟨n + 2, 0, none⟩ = some (.string t) := hb2
  have HO2 := hid hown2
  have HM2 := hid hmt2
  have HH := hid h
  have HF := hid hf
  have hfew := h.few
  have hs' := nameS_small hg
  have htm : t.size ≤ maxLen := by unfold nameS at hg; simp at hg; unfold maxLen; omega
  have hpl : p < w2.heap.size := World.block_lt_of_cell? w2 _ hc2
  have hnl : n < w2.heap.size := World.block_lt_of_cell? w2 _ hd2
  have hbl : n + 2 < w2.heap.size := World.block_lt_of_cell? w2 _ hb2
  clear h hf hd hn hb hown2 hmt2
  go_enter Try.func54, Try.ntmps54
  go_wp2
  go_region_held3 (fun V => V.cell? ⟨n, 0, none⟩ = some (.pointer (some ⟨p, 0, none⟩)) ∧ V.cell? ⟨n + 1, 0, none⟩ = some (.string s) ∧ V.cell? ⟨p, 1, none⟩ = some (.map (some bm)) ∧ (Instr.lookup 49 (.map (some bm)) (.string s) false).run Try.prog V = .ok (.pointer (some ⟨f.ptr, 0, none⟩)) V) (first | (refine ⟨?_, ?_, ?_, ?_⟩ <;> assumption) | go_keep) (fail)
  go_wp2
  clear hlk
  go_region_held3 (fun V => V.cell? ⟨n, 0, none⟩ = some (.pointer (some ⟨p, 0, none⟩)) ∧ V.cell? ⟨n + 1, 0, none⟩ = some (.string s) ∧ V.cell? ⟨p, 1, none⟩ = some (.map (some bm))) (first | (refine ⟨?_, ?_, ?_⟩ <;> assumption) | go_keep) (fail)
  go_wp2
  clear hrun2
  go_region_held3 (fun V => V.cell? ⟨n, 0, none⟩ = some (.pointer (some ⟨p, 0, none⟩)) ∧ V.cell? ⟨n + 2, 0, none⟩ = some (.string t) ∧ V.cell? ⟨p, 1, none⟩ = some (.map (some bm))) (first | (refine ⟨?_, ?_, ?_⟩ <;> assumption) | go_keep)
    (first | (go_at_call 22; refine (clone_any t _ hs').mono ?_; rintro e w5 ⟨rfl, hbel⟩; have hm5 : w5.ownsMap Try.prog 9 valR bm fs.length (D.del (key s)) := (Turns.of_below (F := fun _ => False) hbel (Nat.le_refl _)).map HO2.out.drew (fun e => e); obtain ⟨w6, hrun, hown6, hmt⟩ := hm5.store Try.keyedStr Try.underlying49 (by unfold maxLen; omega) (Try.keyStr htm) (show valR (.pointer (some ⟨f.ptr, 0, none⟩)) = some (.held (.pointer (some ⟨f.ptr, 0, none⟩)), []) from rfl); have HB5 := hid hbel; have HO6 := hid hown6; have HM6 := hid hmt; have y0 : w5.cell? ⟨n, 0, none⟩ = some (.pointer (some ⟨p, 0, none⟩)) := (hbel.cell (p := ⟨n, 0, none⟩) hnl).trans hd3; have y1 : w5.cell? ⟨n + 2, 0, none⟩ = some (.string t) := (hbel.cell (p := ⟨n + 2, 0, none⟩) hbl).trans hb3; have y2 : w5.cell? ⟨p, 1, none⟩ = some (.map (some bm)) := (hbel.cell (p := ⟨p, 1, none⟩) hpl).trans hc3; have z0 := cell_mapped y0 hmt; have z1 := cell_mapped y1 hmt; have z2 := cell_mapped y2 hmt; clear hbel hown6 hmt hm5))
  go_wp2
  go_ret
  exact ⟨rfl, ren_end HH.out HF.out hg HM2.out HO2.out HB5.out HM6.out HO6.out⟩
set_option maxRecDepth 100000 in
set_option maxHeartbeats 1000000 in
theorem rename1_none (h : DiskAt w p bm size calls fs D) (s : ByteArray) (hs : s.size ≤ maxLen) (hf : ffind fs s = none) (n : Nat) (g : Value) (hd : w.cell? ⟨n, 0, none⟩ = some (.pointer (some ⟨p, 0, none⟩))) (hn : w.cell? ⟨n + 1, 0, none⟩ = some (.string s)) :
    Calls Try.prog 54 #[.pointer (some ⟨n, 0, none⟩), .pointer (some ⟨n + 1, 0, none⟩), g] w fun e w' => e = .returned (.int .i64 4) ∧ ∃ q, w' = w.drewN q := by
  have hc1 := h.blk.cell (i := 1) rfl
  have hlk := dlook h.drew hs
  rw [hf] at hlk
  simp only [Option.map_none, Option.getD_none] at hlk
  clear h hf
  go_enter Try.func54, Try.ntmps54
  go_wp2
  go_region_held3 (fun V => V.cell? ⟨n, 0, none⟩ = some (.pointer (some ⟨p, 0, none⟩)) ∧ V.cell? ⟨n + 1, 0, none⟩ = some (.string s) ∧ V.cell? ⟨p, 1, none⟩ = some (.map (some bm)) ∧ (Instr.lookup 49 (.map (some bm)) (.string s) false).run Try.prog V = .ok (.pointer none) V) (first | go_keep | (refine ⟨?_, ?_, ?_, ?_⟩ <;> assumption)) (fail)
  go_wp2
  go_ret
  exact ⟨rfl, 1, rfl⟩
theorem rename_do (w : World) (p : Nat) (s t : ByteArray) (R : Int → World → Prop)
    (hch : Calls Try.prog 20 #[.pointer (some ⟨p, 0, none⟩), .string t, .func (.func 54) #[] #[.pointer (some ⟨w.heap.size, 0, none⟩), .pointer (some ⟨w.heap.size + 1, 0, none⟩), .pointer (some ⟨w.heap.size + 2, 0, none⟩)]] (boxes3 w (.pointer (some ⟨p, 0, none⟩)) (.string s) (.string t) 23 9 9) fun e w' => ∃ er, e = .returned (.int .i64 er) ∧ R er w') :
    Calls Try.prog 29 #[.pointer (some ⟨p, 0, none⟩), .string s, .string t] w fun e w' => ∃ er, e = .returned (.int .i64 er) ∧ R er w' := by
  unfold boxes3 at hch
  have HCH := hid hch
  clear hch
  go_enter Try.func29, Try.ntmps29
  go_wp2_with fail
  refine HCH.out.mono ?_
  rintro e w1 ⟨er, rfl, hR⟩
  have HR := hid hR
  clear hR
  go_wp2
  go_ret
  exact ⟨er, rfl, HR.out⟩
/-- What comes of a Rename. -/
def Renamed (w w' : World) (p bm : Nat) (size calls : Int) (fs : List Fl) (s t : ByteArray) (er : Int) : Prop :=
  (nameS t = false ∧ er = 30 ∧ Now w w' p bm size calls fs fs) ∨ (nameS t = true ∧ ffind fs s = none ∧ er = 4 ∧ Now w w' p bm size calls fs fs) ∨ (∃ f, nameS t = true ∧ ffind fs s = some f ∧ er = 0 ∧ Now w w' p bm size (counted calls) fs (renF fs f s t))
theorem rename_op (h : DiskAt w p bm size calls fs D) (hc : calls ≠ 0) (s t : ByteArray) (hs : s.size ≤ maxLen) (ht : t.size ≤ maxLen) :
    Calls Try.prog 29 #[.pointer (some ⟨p, 0, none⟩), .string s, .string t] w fun e w' => ∃ er, e = .returned (.int .i64 er) ∧ Renamed w w' p bm size calls fs s t er := by
  refine rename_do w p s t _ ?_
  have hb := boxes3_below w (.pointer (some ⟨p, 0, none⟩)) (.string s) (.string t) 23 9 9
  obtain ⟨b0, b1, b2⟩ := boxes3_cells w (.pointer (some ⟨p, 0, none⟩)) (.string s) (.string t) 23 9 9
  generalize boxes3 w (.pointer (some ⟨p, 0, none⟩)) (.string s) (.string t) 23 9 9 = W at *
  have hW := h.below hb (Nat.le_refl _)
  by_cases hg : nameS t = true
  · refine giveName_do hW t ht hg _ _ _ ?_
    cases hf : ffind fs s with
    | none =>
      refine (change_do hW hc (.inr (.inl rfl)) _ (fun er w' => er = 4 ∧ Now W w' p bm size calls fs fs) ?_).mono ?_
      · refine (rename1_none hW s hs hf w.heap.size _ (b0.cell (i := 0) rfl) (b1.cell (i := 0) rfl)).mono ?_
        rintro e w' ⟨rfl, q, rfl⟩
        have hn : Now W (W.drewN q) p bm size calls fs fs := Now.same hW (dn_below W q)
        exact ⟨4, rfl, ⟨rfl, hn⟩, hn.calls_cell⟩
      · rintro e w' ⟨er, w1, rfl, ⟨rfl, hn⟩, hw⟩
        rw [if_neg (fun h => by cases h.1)] at hw
        subst hw
        exact ⟨4, rfl, .inr (.inl ⟨hg, hf, rfl, hn.ahead hb⟩)⟩
    | some f =>
      refine (change_do hW hc (.inr (.inl rfl)) _ (fun er w' => er = 0 ∧ Now W w' p bm size calls fs (renF fs f s t)) ?_).mono ?_
      · refine (rename1_ok hW s t hs hg hf w.heap.size b0 b1 b2).mono ?_
        rintro e w' ⟨rfl, hn⟩
        exact ⟨0, rfl, ⟨rfl, hn⟩, hn.calls_cell⟩
      · rintro e w' ⟨er, w1, rfl, ⟨rfl, hn⟩, rfl⟩
        refine ⟨0, rfl, .inr (.inr ⟨f, hg, hf, rfl, ?_⟩)⟩
        have := (hn.count (er := 0)).ahead hb
        simpa using this
  · have hg' : nameS t = false := by simpa using hg
    refine (giveName_bad hW t ht hg' _ _).mono ?_
    rintro e w' ⟨rfl, rfl⟩
    exact ⟨30, rfl, .inl ⟨hg', rfl, Now.same h hb⟩⟩
end
end Go.Proofs.Ytjfohnkfcfifeaa
