/-
  Package disk: every change, whether the disk is off or not; Stop; Read.
-/
import Derived.Test.YtjfohnkfcfifeaaRyF
namespace Go.Proofs.Ytjfohnkfcfifeaa
open Go.RowKit Go.Maps

def Keep (c : Int) (fs fs' : List Fl) (c' : Int) : Prop := fs' = fs ∧ c' = c
def AppR (size c : Int) (fs : List Fl) (s : ByteArray) (len : Nat) (bs : List Int) (er : Int) (fs' : List Fl) (c' : Int) : Prop :=
  (nameS s = false ∧ er = 30 ∧ Keep c fs fs' c') ∨ (nameS s = true ∧ c = 0 ∧ er = 31 ∧ Keep c fs fs' c') ∨
  (nameS s = true ∧ c ≠ 0 ∧ (size < (total fs : Int) + len ∨ (ffind fs s = none ∧ 64 ≤ fs.length)) ∧ er = 2 ∧ Keep c fs fs' c') ∨
  (nameS s = true ∧ c ≠ 0 ∧ (total fs : Int) + len ≤ size ∧ er = 0 ∧ c' = counted c ∧ ((ffind fs s = none ∧ fs.length < 64 ∧ ∃ q v', fs' = fs ++ [⟨s, q, v', bs, 0⟩]) ∨ (∃ f v', ffind fs s = some f ∧ fs' = setF fs { f with v := v', bytes := f.bytes ++ bs })))
def SynR (c : Int) (fs : List Fl) (s : ByteArray) (er : Int) (fs' : List Fl) (c' : Int) : Prop :=
  (c = 0 ∧ er = 31 ∧ Keep c fs fs' c') ∨ (c ≠ 0 ∧ ffind fs s = none ∧ er = 4 ∧ Keep c fs fs' c') ∨ (c ≠ 0 ∧ ∃ f, ffind fs s = some f ∧ er = 0 ∧ c' = counted c ∧ fs' = setF fs f.synced)
def CutR (c : Int) (fs : List Fl) (s : ByteArray) (x : Int) (er : Int) (fs' : List Fl) (c' : Int) : Prop :=
  (c = 0 ∧ er = 31 ∧ Keep c fs fs' c') ∨ (c ≠ 0 ∧ ffind fs s = none ∧ er = 4 ∧ Keep c fs fs' c') ∨ (c ≠ 0 ∧ (∃ f, ffind fs s = some f ∧ (x < 0 ∨ (f.bytes.length : Int) < x)) ∧ er = 1 ∧ Keep c fs fs' c') ∨
  (c ≠ 0 ∧ ∃ f v, ffind fs s = some f ∧ 0 ≤ x ∧ x ≤ f.bytes.length ∧ er = 0 ∧ c' = counted c ∧ fs' = setF fs (f.cutTo x.toNat v))
def RemR (c : Int) (fs : List Fl) (s : ByteArray) (er : Int) (fs' : List Fl) (c' : Int) : Prop :=
  (c = 0 ∧ er = 31 ∧ Keep c fs fs' c') ∨ (c ≠ 0 ∧ ffind fs s = none ∧ er = 4 ∧ Keep c fs fs' c') ∨ (c ≠ 0 ∧ (∃ f, ffind fs s = some f) ∧ er = 0 ∧ c' = counted c ∧ fs' = delF fs s)
def RenR (c : Int) (fs : List Fl) (s t : ByteArray) (er : Int) (fs' : List Fl) (c' : Int) : Prop :=
  (nameS t = false ∧ er = 30 ∧ Keep c fs fs' c') ∨ (nameS t = true ∧ c = 0 ∧ er = 31 ∧ Keep c fs fs' c') ∨ (nameS t = true ∧ c ≠ 0 ∧ ffind fs s = none ∧ er = 4 ∧ Keep c fs fs' c') ∨
  (nameS t = true ∧ c ≠ 0 ∧ ∃ f, ffind fs s = some f ∧ er = 0 ∧ c' = counted c ∧ fs' = renF fs f s t)
/-- What a change answers and leaves. -/
def Chg (R : Int → List Fl → Int → Prop) (w : World) (p bm : Nat) (size : Int) (fs : List Fl) (e : Ending) (w' : World) : Prop := ∃ er fs' c', e = .returned (.int .i64 er) ∧ Now w w' p bm size c' fs fs' ∧ R er fs' c'
section
variable {w : World} {p bm : Nat} {size calls : Int} {fs : List Fl} {D : DataW Value}
theorem changeFile_off (h : DiskAt w p bm size calls fs D) (hc : calls = 0) (s : ByteArray) (F : Nat) (lb : Array Value) : Calls Try.prog 23 #[.pointer (some ⟨p, 0, none⟩), .string s, .func (.func F) #[] lb] w fun e w' => ∃ er, e = .returned (.int .i64 er) ∧ er = 31 ∧ Now w w' p bm size calls fs fs := by
  refine changeFile_do w p s F lb (fun er w' => er = 31 ∧ Now w w' p bm size calls fs fs) ?_
  have hb := boxes3_below w (.pointer (some ⟨p, 0, none⟩)) (.string s) (.func (.func F) #[] lb) 23 9 65
  refine (change_off (h.below hb (Nat.le_refl _)) hc _ _).mono ?_
  rintro e w' ⟨rfl, rfl⟩
  exact ⟨31, rfl, rfl, Now.same h hb⟩
theorem append_off (h : DiskAt w p bm size calls fs D) (hc : calls = 0) (s : ByteArray) (hs : s.size ≤ maxLen) (ao : Option Addr) (len cap : Nat) :
    Calls Try.prog 9 #[.pointer (some ⟨p, 0, none⟩), .string s, .slice ao len cap] w fun e w' => ∃ er, e = .returned (.int .i64 er) ∧ er = (if nameS s = false then 30 else 31) ∧ Now w w' p bm size calls fs fs := by
  refine append_do w p s ao len cap _ ?_
  have hb := boxes3_below w (.pointer (some ⟨p, 0, none⟩)) (.string s) (.slice ao len cap) 23 9 31
  have hW := h.below hb (Nat.le_refl _)
  cases hn : nameS s with
  | false =>
    refine (giveName_bad hW s hs hn _ _).mono ?_
    rintro e w' ⟨rfl, rfl⟩
    exact ⟨30, rfl, rfl, Now.same h hb⟩
  | true =>
    refine giveName_do hW s hs hn _ _ _ ((change_off hW hc _ _).mono ?_)
    rintro e w' ⟨rfl, rfl⟩
    exact ⟨31, rfl, rfl, Now.same h hb⟩
theorem rename_off (h : DiskAt w p bm size calls fs D) (hc : calls = 0) (s t : ByteArray) (ht : t.size ≤ maxLen) :
    Calls Try.prog 29 #[.pointer (some ⟨p, 0, none⟩), .string s, .string t] w fun e w' => ∃ er, e = .returned (.int .i64 er) ∧ er = (if nameS t = false then 30 else 31) ∧ Now w w' p bm size calls fs fs := by
  refine rename_do w p s t _ ?_
  have hb := boxes3_below w (.pointer (some ⟨p, 0, none⟩)) (.string s) (.string t) 23 9 9
  have hW := h.below hb (Nat.le_refl _)
  cases hn : nameS t with
  | false =>
    refine (giveName_bad hW t ht hn _ _).mono ?_
    rintro e w' ⟨rfl, rfl⟩
    exact ⟨30, rfl, rfl, Now.same h hb⟩
  | true =>
    refine giveName_do hW t ht hn _ _ _ ((change_off hW hc _ _).mono ?_)
    rintro e w' ⟨rfl, rfl⟩
    exact ⟨31, rfl, rfl, Now.same h hb⟩
theorem append_chg (h : DiskAt w p bm size calls fs D) (s : ByteArray) (hs : s.size ≤ maxLen) (ao : Option Addr) (len cap : Nat) (bs : List Int) (hB : Held w ao len cap bs) :
    Calls Try.prog 9 #[.pointer (some ⟨p, 0, none⟩), .string s, .slice ao len cap] w (Chg (AppR size calls fs s len bs) w p bm size fs) := by
  by_cases hc : calls = 0
  · refine (append_off h hc s hs ao len cap).mono ?_
    rintro e w' ⟨er, rfl, he, hn⟩
    cases hnm : nameS s with
    | false => rw [hnm] at he; exact ⟨er, fs, calls, rfl, hn, .inl ⟨hnm, he, rfl, rfl⟩⟩
    | true => rw [hnm] at he; exact ⟨er, fs, calls, rfl, hn, .inr (.inl ⟨hnm, hc, he, rfl, rfl⟩)⟩
  · refine (append_any h hc s hs ao len cap bs hB).mono ?_
    rintro e w' ⟨er, rfl, ⟨h1, h2, h3⟩ | ⟨h1, h2, h3, h4⟩ | ⟨h1, h2, h3, ⟨h4, h5, q, v', h6⟩ | ⟨f, v', h4, h5⟩⟩⟩
    · exact ⟨er, fs, calls, rfl, h3, .inl ⟨h1, h2, rfl, rfl⟩⟩
    · exact ⟨er, fs, calls, rfl, h4, .inr (.inr (.inl ⟨h1, hc, h2, h3, rfl, rfl⟩))⟩
    · exact ⟨er, _, _, rfl, h6, .inr (.inr (.inr ⟨h1, hc, h2, h3, rfl, .inl ⟨h4, h5, q, v', rfl⟩⟩))⟩
    · exact ⟨er, _, _, rfl, h5, .inr (.inr (.inr ⟨h1, hc, h2, h3, rfl, .inr ⟨f, v', h4, rfl⟩⟩))⟩
theorem sync_chg (h : DiskAt w p bm size calls fs D) (s : ByteArray) (hs : s.size ≤ maxLen) :
    Calls Try.prog 15 #[.pointer (some ⟨p, 0, none⟩), .string s] w (Chg (SynR calls fs s) w p bm size fs) := by
  by_cases hc : calls = 0
  · have HOP := hid (changeFile_off h hc s 44 #[])
    have HC := hid hc
    clear h hc
    go_enter Try.func15, Try.ntmps15
    go_wp2_with fail
    refine HOP.out.mono ?_
    rintro e w' ⟨er, rfl, rfl, hn⟩
    have HN := hid hn
    clear hn
    go_wp2
    go_ret
    exact ⟨31, fs, calls, rfl, HN.out, .inl ⟨HC.out, rfl, rfl, rfl⟩⟩
  · refine (sync_op h hc s hs).mono ?_
    rintro e w' ⟨er, rfl, ⟨h1, h2, h3⟩ | ⟨f, h1, h2, h3⟩⟩
    · exact ⟨er, fs, calls, rfl, h3, .inr (.inl ⟨hc, h1, h2, rfl, rfl⟩)⟩
    · exact ⟨er, _, _, rfl, h3, .inr (.inr ⟨hc, f, h1, h2, rfl, rfl⟩)⟩
theorem cut_chg (h : DiskAt w p bm size calls fs D) (s : ByteArray) (hs : s.size ≤ maxLen) (x : Int) :
    Calls Try.prog 27 #[.pointer (some ⟨p, 0, none⟩), .string s, .int .i64 x] w (Chg (CutR calls fs s x) w p bm size fs) := by
  by_cases hc : calls = 0
  · have hb : Below w.heap.size w (w.alloc (.cells #[.int .i64 x] 3)) := (Below.refl _ w).alloc (Nat.le_refl _) _
    refine (cut_do w p s x _ (changeFile_off (h.below hb (Nat.le_refl _)) hc s _ _)).mono ?_
    rintro e w' ⟨er, rfl, he, hn⟩
    exact ⟨er, fs, calls, rfl, hn.ahead hb, .inl ⟨hc, he, rfl, rfl⟩⟩
  · refine (cut_op h hc s hs x).mono ?_
    rintro e w' ⟨er, rfl, ⟨h1, h2, h3⟩ | ⟨f, h1, h2, h3, h4⟩ | ⟨f, v, h1, h2, h3, h4, h5⟩⟩
    · exact ⟨er, fs, calls, rfl, h3, .inr (.inl ⟨hc, h1, h2, rfl, rfl⟩)⟩
    · exact ⟨er, fs, calls, rfl, h4, .inr (.inr (.inl ⟨hc, ⟨f, h1, h2⟩, h3, rfl, rfl⟩))⟩
    · exact ⟨er, _, _, rfl, h5, .inr (.inr (.inr ⟨hc, f, v, h1, h2, h3, h4, rfl, rfl⟩))⟩
theorem remove_chg (h : DiskAt w p bm size calls fs D) (s : ByteArray) (hs : s.size ≤ maxLen) :
    Calls Try.prog 10 #[.pointer (some ⟨p, 0, none⟩), .string s] w (Chg (RemR calls fs s) w p bm size fs) := by
  by_cases hc : calls = 0
  · have hb : Below w.heap.size w ((w.alloc (.cells #[.pointer (some ⟨p, 0, none⟩)] 23)).alloc (.cells #[.string s] 9)) := ((Below.refl _ w).alloc (Nat.le_refl _) _).alloc (by simp) _
    refine (remove_do w p s _ (changeFile_off (h.below hb (Nat.le_refl _)) hc s _ _)).mono ?_
    rintro e w' ⟨er, rfl, he, hn⟩
    exact ⟨er, fs, calls, rfl, hn.ahead hb, .inl ⟨hc, he, rfl, rfl⟩⟩
  · refine (remove_op h hc s hs).mono ?_
    rintro e w' ⟨er, rfl, ⟨h1, h2, h3⟩ | ⟨f, h1, h2, h3⟩⟩
    · exact ⟨er, fs, calls, rfl, h3, .inr (.inl ⟨hc, h1, h2, rfl, rfl⟩)⟩
    · exact ⟨er, _, _, rfl, h3, .inr (.inr ⟨hc, ⟨f, h1⟩, h2, rfl, rfl⟩)⟩
theorem rename_chg (h : DiskAt w p bm size calls fs D) (s t : ByteArray) (hs : s.size ≤ maxLen) (ht : t.size ≤ maxLen) :
    Calls Try.prog 29 #[.pointer (some ⟨p, 0, none⟩), .string s, .string t] w (Chg (RenR calls fs s t) w p bm size fs) := by
  by_cases hc : calls = 0
  · refine (rename_off h hc s t ht).mono ?_
    rintro e w' ⟨er, rfl, he, hn⟩
    cases hnm : nameS t with
    | false => rw [hnm] at he; exact ⟨er, fs, calls, rfl, hn, .inl ⟨hnm, he, rfl, rfl⟩⟩
    | true => rw [hnm] at he; exact ⟨er, fs, calls, rfl, hn, .inr (.inl ⟨hnm, hc, he, rfl, rfl⟩)⟩
  · refine (rename_op h hc s t hs ht).mono ?_
    rintro e w' ⟨er, rfl, ⟨h1, h2, h3⟩ | ⟨h1, h2, h3, h4⟩ | ⟨f, h1, h2, h3, h4⟩⟩
    · exact ⟨er, fs, calls, rfl, h3, .inl ⟨h1, h2, rfl, rfl⟩⟩
    · exact ⟨er, fs, calls, rfl, h4, .inr (.inr (.inl ⟨h1, hc, h2, h3, rfl, rfl⟩))⟩
    · exact ⟨er, _, _, rfl, h4, .inr (.inr (.inr ⟨h1, hc, f, h2, h3, rfl, rfl⟩))⟩
theorem stop_chg (h : DiskAt w p bm size calls fs D) (x : Int) (hx : -9223372036854775808 ≤ x ∧ x ≤ 9223372036854775807) : Calls Try.prog 33 #[.pointer (some ⟨p, 0, none⟩), .int .i64 x] w fun e w' => e = .returned (.tuple #[]) ∧ Now w w' p bm size (if calls = 0 then calls else x) fs fs := by
  have HCL := hid h.closed
  have HOF := hid (off_any h)
  have H := hid h
  have HX := hid hx
  have c2 := h.blk.cell (i := 2) rfl
  have f2 := h.blk.frozen 2
  clear h hx
  by_cases hc : calls = 0
  · rw [if_pos hc]
    have hb : (calls == 0) = true := by simp [hc]
    rw [hb] at HOF
    clear hc hb
    go_enter Try.func33, Try.ntmps33
    go_wp2_with fail
    refine HCL.out.mono ?_
    rintro e w1 ⟨rfl, rfl⟩
    go_wp2_with fail
    refine HOF.out.mono ?_
    rintro e w2 ⟨rfl, rfl⟩
    go_wp2
    refine bodyPost_ret (results_none rfl _ _ _) rfl ?_
    exact ⟨rfl, Now.same H.out (Below.refl _ _)⟩
  · rw [if_neg hc]
    have hb : (calls == 0) = false := by simp [hc]
    rw [hb] at HOF
    have HEND : Hid (∀ W, W = w.setCell ⟨p, 2, none⟩ (.int .i64 x) → Now w W p bm size x fs fs) := fun W hW => by
      have ht : Turns (fun i => i = p) w W := by rw [hW]; exact (Turns.refl (fun i => i = p) _).setCell (p := ⟨p, 2, none⟩) (.inl rfl) _
      have hh := H.out
      have hpf : ∀ f ∈ fs, ∀ i, f.Foot i → ¬ i = p := fun f hf i hi e => by
        rcases hi with hi | hi
        · have h1 := hh.blk
          have h2 := (hh.files f hf).blk
          rw [show f.ptr = p from hi.symm.trans e] at h2
          have h3 := Option.some.inj (h1.symm.trans h2)
          injection h3 with h4 h5
          exact absurd h5 (by decide)
        · rw [e] at hi
          first
          | exact hh.blk.not_row (by decide) (hh.files f hf).row hi
          | exact hh.blk.not_row (by decide) (hh.files f hf).row hi.symm
      refine ⟨D, ⟨by rw [hW]; exact hh.blk.set 2 _, ht.map hh.map (fun e => hh.blk.not_map hh.map e.symm), hh.cnt, hh.look, fun f hf => (hh.files f hf).turned ht (fun i hi => hpf f hf i hi), hh.apart, hh.names, hh.good, hh.few, hh.room, hh.big, HX.out⟩, ht.mono (fun i hi => .inl hi), fun i hi => .inl hi⟩
    clear hc hb
    go_enter Try.func33, Try.ntmps33
    go_wp2_with fail
    refine HCL.out.mono ?_
    rintro e w1 ⟨rfl, rfl⟩
    go_wp2_with fail
    refine HOF.out.mono ?_
    rintro e w2 ⟨rfl, rfl⟩
    go_wp2
    go_end0
    exact ⟨rfl, HEND.out _ rfl⟩
end
end Go.Proofs.Ytjfohnkfcfifeaa
