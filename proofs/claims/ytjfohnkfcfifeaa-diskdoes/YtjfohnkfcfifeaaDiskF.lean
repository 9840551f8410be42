/-
  Package disk: a change of a file that is there, whatever the closure; Sync and Cut.
-/
import Derived.Test.YtjfohnkfcfifeaaDiskE
namespace Go.Proofs.Ytjfohnkfcfifeaa
open Go.RowKit Go.Maps

/-- What a call has made of a disk: the files fs', the count c; nothing but the disk's own blocks has turned. -/
def Now (w w' : World) (p bm : Nat) (size c : Int) (fs fs' : List Fl) : Prop := ∃ D', DiskAt w' p bm size c fs' D' ∧ Turns (DFoot p bm fs) w w' ∧ ∀ i, DFoot p bm fs' i → DFoot p bm fs i ∨ w.heap.size ≤ i

section
variable {w w' W : World} {p bm : Nat} {size calls c : Int} {fs fs' : List Fl} {D : DataW Value}
theorem Now.ahead (hb : Below w.heap.size w W) (h : Now W w' p bm size c fs fs') : Now w w' p bm size c fs fs' := by
  obtain ⟨D', hd, ht, hf⟩ := h
  refine ⟨D', hd, (Turns.of_below hb (Nat.le_refl _)).trans ht (fun i hi => .inl hi), fun i hi => ?_⟩
  rcases hf i hi with h | h
  · exact .inl h
  · exact .inr (Nat.le_trans hb.size h)
theorem Now.same (h : DiskAt w p bm size calls fs D) (hb : Below w.heap.size w w') : Now w w' p bm size calls fs fs := ⟨D, h.below hb (Nat.le_refl _), Turns.of_below hb (Nat.le_refl _), fun _ h => .inl h⟩
theorem Now.dn (h : Now w w' p bm size c fs fs') (q : Nat) : Now w (w'.drewN q) p bm size c fs fs' := by
  obtain ⟨D', hd, ht, hf⟩ := h
  exact ⟨D', hd.drewN q, ht.drewN q, hf⟩
theorem counted_in (h : -9223372036854775808 ≤ calls ∧ calls ≤ 9223372036854775807) : -9223372036854775808 ≤ counted calls ∧ counted calls ≤ 9223372036854775807 := by
  unfold counted
  split <;> omega
/-- The count, behind a call that is OK. -/
theorem Now.count {er : Int} (h : Now w w' p bm size calls fs fs') : Now w (if er = 0 ∧ 0 < calls then w'.setCell ⟨p, 2, none⟩ (.int .i64 (calls - 1)) else w') p bm size (if er = 0 then counted calls else calls) fs fs' := by
  obtain ⟨D', hd, ht, hf⟩ := h
  by_cases he : er = 0
  · by_cases hp : 0 < calls
    · rw [if_pos ⟨he, hp⟩, if_pos he]
      have e : counted calls = calls - 1 := by unfold counted; rw [if_pos hp]
      rw [e]
      exact ⟨D', hd.setCalls _ (by have := hd.calls; omega), ht.setCell (p := ⟨p, 2, none⟩) (.inl (.inl rfl)) _, hf⟩
    · rw [if_neg (fun h => hp h.2), if_pos he]
      have e : counted calls = calls := by unfold counted; rw [if_neg hp]
      rw [e]
      exact ⟨D', hd, ht, hf⟩
  · rw [if_neg (fun h => he h.1), if_neg he]
    exact ⟨D', hd, ht, hf⟩
theorem Now.calls_cell (h : Now w w' p bm size c fs fs') : w'.cell? ⟨p, 2, none⟩ = some (.int .i64 c) ∧ w'.frozen? ⟨p, 2, none⟩ = false := by
  obtain ⟨D', hd, _⟩ := h
  exact ⟨hd.blk.cell (i := 2) rfl, hd.blk.frozen 2⟩

theorem drew_below (w : World) : Below w.heap.size w w.drew := ⟨rfl, rfl, rfl, Nat.le_refl _, fun _ _ => rfl⟩
theorem dn_below (w : World) (q : Nat) : Below w.heap.size w (w.drewN q) := ⟨rfl, rfl, rfl, Nat.le_refl _, fun _ _ => rfl⟩

theorem fileOp_off (h : DiskAt w p bm size calls fs D) (hc : calls = 0) (s : ByteArray) (F : Nat) (lb : Array Value) :
    Calls Try.prog 23 #[.pointer (some ⟨p, 0, none⟩), .string s, .func (.func F) #[] lb] w fun e w' => ∃ er, e = .returned (.int .i64 er) ∧ er = 31 ∧ Now w w' p bm size calls fs fs := by
  refine changeFile_do w p s F lb (fun er w' => er = 31 ∧ Now w w' p bm size calls fs fs) ?_
  have hb := boxes3_below w (.pointer (some ⟨p, 0, none⟩)) (.string s) (.func (.func F) #[] lb) 23 9 65
  refine (change_off (h.below hb (Nat.le_refl _)) hc _ _).mono ?_
  rintro e w' ⟨rfl, rfl⟩
  exact ⟨31, rfl, rfl, Now.same h hb⟩
theorem fileOp_none (h : DiskAt w p bm size calls fs D) (hc : calls ≠ 0) (s : ByteArray) (hs : s.size ≤ maxLen) (hf : ffind fs s = none) (F : Nat) (lb : Array Value) :
    Calls Try.prog 23 #[.pointer (some ⟨p, 0, none⟩), .string s, .func (.func F) #[] lb] w fun e w' => ∃ er, e = .returned (.int .i64 er) ∧ er = 4 ∧ Now w w' p bm size calls fs fs := by
  refine changeFile_do w p s F lb (fun er w' => er = 4 ∧ Now w w' p bm size calls fs fs) ?_
  have hb := boxes3_below w (.pointer (some ⟨p, 0, none⟩)) (.string s) (.func (.func F) #[] lb) 23 9 65
  obtain ⟨b0, b1, b2⟩ := boxes3_cells w (.pointer (some ⟨p, 0, none⟩)) (.string s) (.func (.func F) #[] lb) 23 9 65
  generalize boxes3 w (.pointer (some ⟨p, 0, none⟩)) (.string s) (.func (.func F) #[] lb) 23 9 65 = W at *
  have hW := h.below hb (Nat.le_refl _)
  refine (change_do hW hc (.inr (.inr rfl)) _ (fun er w' => er = 4 ∧ Now W w' p bm size calls fs fs) ?_).mono ?_
  · refine (changeFile1_none hW s hs hf w.heap.size _ (b0.cell (i := 0) rfl) (b1.cell (i := 0) rfl)).mono ?_
    rintro e w' ⟨rfl, q, rfl⟩
    have hn : Now W (W.drewN q) p bm size calls fs fs := Now.same hW (dn_below W q)
    exact ⟨4, rfl, ⟨rfl, hn⟩, hn.calls_cell⟩
  · rintro e w' ⟨er, w1, rfl, ⟨rfl, hn⟩, hw⟩
    rw [if_neg (fun h => by cases h.1)] at hw
    subst hw
    exact ⟨4, rfl, rfl, hn.ahead hb⟩
theorem fileOp_do (h : DiskAt w p bm size calls fs D) (hc : calls ≠ 0) (s : ByteArray) (hs : s.size ≤ maxLen) {f : Fl} (hf : ffind fs s = some f) (F : Nat) (lb : Array Value) (hF : FDoer F lb) (K : Int → List Fl → Prop)
    (hcl : ∀ W D, DiskAt W p bm size calls fs D → Below w.heap.size w W → Calls Try.prog F (#[.pointer (some ⟨f.ptr, 0, none⟩)] ++ lb) W fun e w' => ∃ er fs', e = .returned (.int .i64 er) ∧ K er fs' ∧ Now W w' p bm size calls fs fs') :
    Calls Try.prog 23 #[.pointer (some ⟨p, 0, none⟩), .string s, .func (.func F) #[] lb] w fun e w' => ∃ er, e = .returned (.int .i64 er) ∧ ∃ fs', K er fs' ∧ Now w w' p bm size (if er = 0 then counted calls else calls) fs fs' := by
  refine changeFile_do w p s F lb (fun er w' => ∃ fs', K er fs' ∧ Now w w' p bm size (if er = 0 then counted calls else calls) fs fs') ?_
  have hb := boxes3_below w (.pointer (some ⟨p, 0, none⟩)) (.string s) (.func (.func F) #[] lb) 23 9 65
  obtain ⟨b0, b1, b2⟩ := boxes3_cells w (.pointer (some ⟨p, 0, none⟩)) (.string s) (.func (.func F) #[] lb) 23 9 65
  generalize boxes3 w (.pointer (some ⟨p, 0, none⟩)) (.string s) (.func (.func F) #[] lb) 23 9 65 = W at *
  have hW := h.below hb (Nat.le_refl _)
  refine (change_do hW hc (.inr (.inr rfl)) _ (fun er w' => ∃ fs', K er fs' ∧ Now W w' p bm size calls fs fs') ?_).mono ?_
  · refine (changeFile1_do hW s hs hf w.heap.size F lb hF (b0.cell (i := 0) rfl) (b1.cell (i := 0) rfl) (b2.cell (i := 0) rfl) (fun er w' => (∃ fs', K er fs' ∧ Now W w' p bm size calls fs fs') ∧ w'.cell? ⟨p, 2, none⟩ = some (.int .i64 calls) ∧ w'.frozen? ⟨p, 2, none⟩ = false) ?_).mono ?_
    · refine (hcl W.drew D hW.drew hb.drew).mono ?_
      rintro e w' ⟨er, fs', rfl, hK, hn⟩
      exact ⟨er, rfl, ⟨fs', hK, hn.ahead (drew_below W)⟩, hn.calls_cell⟩
    · rintro e w' ⟨er, rfl, h1, h2, h3⟩
      exact ⟨er, rfl, h1, h2, h3⟩
  · rintro e w' ⟨er, w1, rfl, ⟨fs', hK, hn⟩, rfl⟩
    exact ⟨er, rfl, fs', hK, hn.count.ahead hb⟩

theorem grownBy_setIn (W : World) (b i : Nat) (v : Value) : W.grownBy (W.setCell ⟨b, i, none⟩ v) (some b) :=
  ⟨rfl, rfl, rfl, by simp, fun k _ hn => RowKit.Below.heap_setCell _ _ _ _ (fun e => hn (by rw [e]))⟩
theorem sync1 {f : Fl} (hf : FlAt w f) : Calls Try.prog 44 #[.pointer (some ⟨f.ptr, 0, none⟩)] w fun e w' => e = .returned (.int .i64 0) ∧ w' = w.setCell ⟨f.ptr, 1, none⟩ (.int .i64 f.bytes.length) := by
  obtain ⟨ao, cap, hv, _⟩ := flAt_held hf
  have c0 := hf.blk.cell (i := 0) rfl
  have c1 := hf.blk.cell (i := 1) rfl
  have f1 := hf.blk.frozen 1
  rw [hv] at c0
  clear hf hv
  go_enter Try.func44, Try.ntmps44
  go_wp2
  go_ret
  exact ⟨rfl, rfl⟩

/-- A file whose struct alone is written. -/
theorem Now.wrote (h : DiskAt w p bm size calls fs D) {f f' : Fl} (hf : ffind fs f'.name = some f) (hptr : f'.ptr = f.ptr) (hat : FlAt w' f') (ht : Turns f.Foot w w') (hF : ∀ i, f'.Foot i → f.Foot i ∨ w.heap.size ≤ i) (hroom : (total fs : Int) - f.bytes.length + f'.bytes.length ≤ size) : Now w w' p bm size calls fs (setF fs f') := by
  have hm := (ffind_mem hf).1
  refine ⟨D, h.setF hf hptr hat ht hF hroom, ht.mono (fun i hi => .inr (.inr ⟨f, hm, hi⟩)), ?_⟩
  rintro i (e | e | ⟨g, hg, hi⟩)
  · exact .inl (.inl e)
  · exact .inl (.inr (.inl e))
  · rcases setF_mem hg with rfl | ⟨hg', _⟩
    · rcases hF i hi with h1 | h1
      · exact .inl (.inr (.inr ⟨f, hm, h1⟩))
      · exact .inr h1
    · exact .inl (.inr (.inr ⟨g, hg', hi⟩))

theorem sync_nil (w : World) (s : ByteArray) : Calls Try.prog 15 #[.pointer none, .string s] w fun e w' => e = .returned (.int .i64 6) ∧ Below w.heap.size w w' := by
  go_enter Try.func15, Try.ntmps15
  go_wp2_with fail
  refine (changeFile_nil _ _ _ _).mono ?_
  rintro e w' ⟨rfl, hb⟩
  go_wp2
  go_ret
  exact ⟨rfl, hb⟩
/-- The error of a change of a file that is there or not. -/
def Fl.synced (f : Fl) : Fl := { f with sure := f.bytes.length }
theorem sync_ok (h : DiskAt w p bm size calls fs D) (hc : calls ≠ 0) (s : ByteArray) (hs : s.size ≤ maxLen) {f : Fl} (hf : ffind fs s = some f) :
    Calls Try.prog 15 #[.pointer (some ⟨p, 0, none⟩), .string s] w fun e w' => e = .returned (.int .i64 0) ∧ Now w w' p bm size (counted calls) fs (setF fs f.synced) := by
  have hop := fileOp_do h hc s hs hf 44 #[] (.inl ⟨rfl, rfl⟩) (fun er fs' => er = 0 ∧ fs' = setF fs f.synced) (fun W D hW _ => by
    obtain ⟨hm, hn⟩ := ffind_mem hf
    have hfa := hW.files f hm
    refine (sync1 hfa).mono ?_
    rintro e w' ⟨rfl, rfl⟩
    have hpv : ∀ g, f.v.ownBlock = some g → g ≠ f.ptr := fun g hg e => hfa.blk.not_row (by decide) hfa.row (by rw [hg, e])
    refine ⟨0, _, rfl, ⟨rfl, rfl⟩, Now.wrote hW (f := f) (f' := f.synced) (by rw [show f.synced.name = s from hn]; exact hf) rfl ?_ ((Turns.refl _ _).setCell (.inl (.inl rfl)) _) (fun i hi => .inl hi) (by have := hW.room; simp [Fl.synced]; exact this)⟩
    exact ⟨hfa.blk.set 1 _, hfa.row.kept (grownBy_setIn W f.ptr 1 _) (.inr (hfa.blk.not_row (by decide) hfa.row).symm), hfa.byte, Nat.le_refl _⟩)
  have HOP := hid hop
  clear hop h hf
  go_enter Try.func15, Try.ntmps15
  go_wp2_with fail
  refine HOP.out.mono ?_
  rintro e w' ⟨er, rfl, fs', ⟨rfl, rfl⟩, hn⟩
  rw [if_pos rfl] at hn
  have HN := hid hn
  clear hn
  go_wp2
  go_ret
  exact ⟨rfl, HN.out⟩
end
end Go.Proofs.Ytjfohnkfcfifeaa
