/-
  Package disk: a nil disk; Append as a whole.
-/
import Derived.Test.YtjfohnkfcfifeaaDiskH
namespace Go.Proofs.Ytjfohnkfcfifeaa
open Go.RowKit Go.Maps

theorem boxed_below (w : World) (o : Obj) : Below w.heap.size w (w.alloc o) := (Below.refl _ w).alloc (Nat.le_refl _) _

theorem append_nil (w : World) (s : ByteArray) (ao : Option Addr) (len cap : Nat) : Calls Try.prog 9 #[.pointer none, .string s, .slice ao len cap] w fun e w' => e = .returned (.int .i64 6) ∧ Below w.heap.size w w' := by
  go_enter Try.func9, Try.ntmps9
  go_wp2_with fail
  refine (giveName_nil _ _ _ _).mono ?_
  rintro e w' ⟨rfl, rfl⟩
  go_wp2
  go_ret
  exact ⟨rfl, boxes3_below w _ _ _ _ _ _⟩
theorem cut_nil (w : World) (s : ByteArray) (x : Int) : Calls Try.prog 27 #[.pointer none, .string s, .int .i64 x] w fun e w' => e = .returned (.int .i64 6) ∧ Below w.heap.size w w' := by
  go_enter Try.func27, Try.ntmps27
  go_wp2_with fail
  refine (changeFile_nil _ _ _ _).mono ?_
  rintro e w' ⟨rfl, hb⟩
  go_wp2
  go_ret
  exact ⟨rfl, (boxed_below w _).trans (hb.mono (by simp))⟩
theorem rename_nil (w : World) (s t : ByteArray) : Calls Try.prog 29 #[.pointer none, .string s, .string t] w fun e w' => e = .returned (.int .i64 6) ∧ Below w.heap.size w w' := by
  go_enter Try.func29, Try.ntmps29
  go_wp2_with fail
  refine (giveName_nil _ _ _ _).mono ?_
  rintro e w' ⟨rfl, rfl⟩
  go_wp2
  go_ret
  exact ⟨rfl, boxes3_below w _ _ _ _ _ _⟩
theorem remove_nil (w : World) (s : ByteArray) : Calls Try.prog 10 #[.pointer none, .string s] w fun e w' => e = .returned (.int .i64 6) ∧ Below w.heap.size w w' := by
  go_enter Try.func10, Try.ntmps10
  go_wp2_with fail
  refine (changeFile_nil _ _ _ _).mono ?_
  rintro e w' ⟨rfl, hb⟩
  go_wp2
  go_ret
  exact ⟨rfl, ((boxed_below w _).trans ((boxed_below _ _).mono (by simp))).trans (hb.mono (by simp; omega))⟩
theorem files_nil (w : World) : Calls Try.prog 13 #[.pointer none] w fun e w' => e = .returned (.slice none 0 0) ∧ w' = w := by
  go_enter Try.func13, Try.ntmps13
  go_wp2_with fail
  refine (dclosed_nil _).mono ?_
  rintro e w' ⟨rfl, rfl⟩
  go_wp2
  go_ret
  exact ⟨rfl, rfl⟩
theorem crash_nil (w : World) (v : Value) : Calls Try.prog 14 #[.pointer none, v] w fun e w' => e = .returned (.int .i64 6) ∧ w' = w := by
  go_enter Try.func14, Try.ntmps14
  go_wp2_with fail
  refine (dclosed_nil _).mono ?_
  rintro e w' ⟨rfl, rfl⟩
  go_wp2
  go_ret
  exact ⟨rfl, rfl⟩
theorem fork_nil (w : World) : Calls Try.prog 8 #[.pointer none] w fun e w' => e = .returned (.pointer none) ∧ w' = w := by
  go_enter Try.func8, Try.ntmps8
  go_wp2_with fail
  refine (dclosed_nil _).mono ?_
  rintro e w' ⟨rfl, rfl⟩
  go_wp2
  go_ret
  exact ⟨rfl, rfl⟩

section
variable {w : World} {p bm : Nat} {size calls : Int} {fs : List Fl} {D : DataW Value}

/-- Append, whatever its closure comes to. -/
theorem append_do (w : World) (p : Nat) (s : ByteArray) (ao : Option Addr) (len cap : Nat) (R : Int → World → Prop)
    (hch : Calls Try.prog 20 #[.pointer (some ⟨p, 0, none⟩), .string s, .func (.func 21) #[] #[.pointer (some ⟨w.heap.size, 0, none⟩), .pointer (some ⟨w.heap.size + 1, 0, none⟩), .pointer (some ⟨w.heap.size + 2, 0, none⟩)]] (boxes3 w (.pointer (some ⟨p, 0, none⟩)) (.string s) (.slice ao len cap) 23 9 31) fun e w' => ∃ er, e = .returned (.int .i64 er) ∧ R er w') :
    Calls Try.prog 9 #[.pointer (some ⟨p, 0, none⟩), .string s, .slice ao len cap] w fun e w' => ∃ er, e = .returned (.int .i64 er) ∧ R er w' := by
  unfold boxes3 at hch
  have HCH := hid hch
  clear hch
  go_enter Try.func9, Try.ntmps9
  go_wp2_with fail
  refine HCH.out.mono ?_
  rintro e w1 ⟨er, rfl, hR⟩
  have HR := hid hR
  clear hR
  go_wp2
  go_ret
  exact ⟨er, rfl, HR.out⟩

theorem append_new (h : DiskAt w p bm size calls fs D) (hc : calls ≠ 0) (s : ByteArray) (hs : s.size ≤ maxLen) (hg : nameS s = true) (hf : ffind fs s = none) (hfew : fs.length < 64) (ao : Option Addr) (len cap : Nat) (bs : List Int) (hB : Held w ao len cap bs) (hroom : (total fs : Int) + len ≤ size) :
    Calls Try.prog 9 #[.pointer (some ⟨p, 0, none⟩), .string s, .slice ao len cap] w fun e w' => ∃ er, e = .returned (.int .i64 er) ∧ er = 0 ∧ ∃ q v', Now w w' p bm size (counted calls) fs (fs ++ [⟨s, q, v', bs, 0⟩]) := by
  refine append_do w p s ao len cap (fun er w' => er = 0 ∧ ∃ q v', Now w w' p bm size (counted calls) fs (fs ++ [⟨s, q, v', bs, 0⟩])) ?_
  have hb := boxes3_below w (.pointer (some ⟨p, 0, none⟩)) (.string s) (.slice ao len cap) 23 9 31
  obtain ⟨b0, b1, b2⟩ := boxes3_cells w (.pointer (some ⟨p, 0, none⟩)) (.string s) (.slice ao len cap) 23 9 31
  generalize boxes3 w (.pointer (some ⟨p, 0, none⟩)) (.string s) (.slice ao len cap) 23 9 31 = W at *
  have hW := h.below hb (Nat.le_refl _)
  refine giveName_do hW s hs hg _ _ _ ?_
  refine (change_do hW hc (.inl rfl) _ (fun er w' => er = 0 ∧ ∃ q v', Now W w' p bm size calls fs (fs ++ [⟨s, q, v', bs, 0⟩])) ?_).mono ?_
  · refine (append1_new hW s hs hg hf hfew w.heap.size ao len cap bs (hB.below hb (Nat.le_refl _)) b0 b1 b2 hroom).mono ?_
    rintro e w' ⟨rfl, q, v', hn⟩
    exact ⟨0, rfl, ⟨rfl, q, v', hn⟩, hn.calls_cell⟩
  · rintro e w' ⟨er, w1, rfl, ⟨rfl, q, v', hn⟩, rfl⟩
    refine ⟨0, rfl, rfl, q, v', ?_⟩
    have := (hn.count (er := 0)).ahead hb
    simpa using this
theorem append_old (h : DiskAt w p bm size calls fs D) (hc : calls ≠ 0) (s : ByteArray) (hs : s.size ≤ maxLen) (hg : nameS s = true) {f : Fl} (hf : ffind fs s = some f) (ao : Option Addr) (len cap : Nat) (bs : List Int) (hB : Held w ao len cap bs) (hroom : (total fs : Int) + len ≤ size) :
    Calls Try.prog 9 #[.pointer (some ⟨p, 0, none⟩), .string s, .slice ao len cap] w fun e w' => ∃ er, e = .returned (.int .i64 er) ∧ er = 0 ∧ ∃ v', Now w w' p bm size (counted calls) fs (setF fs { f with v := v', bytes := f.bytes ++ bs }) := by
  refine append_do w p s ao len cap (fun er w' => er = 0 ∧ ∃ v', Now w w' p bm size (counted calls) fs (setF fs { f with v := v', bytes := f.bytes ++ bs })) ?_
  have hb := boxes3_below w (.pointer (some ⟨p, 0, none⟩)) (.string s) (.slice ao len cap) 23 9 31
  obtain ⟨b0, b1, b2⟩ := boxes3_cells w (.pointer (some ⟨p, 0, none⟩)) (.string s) (.slice ao len cap) 23 9 31
  generalize boxes3 w (.pointer (some ⟨p, 0, none⟩)) (.string s) (.slice ao len cap) 23 9 31 = W at *
  have hW := h.below hb (Nat.le_refl _)
  refine giveName_do hW s hs hg _ _ _ ?_
  refine (change_do hW hc (.inl rfl) _ (fun er w' => er = 0 ∧ ∃ v', Now W w' p bm size calls fs (setF fs { f with v := v', bytes := f.bytes ++ bs })) ?_).mono ?_
  · refine (append1_old hW s hs hf w.heap.size ao len cap bs (hB.below hb (Nat.le_refl _)) b0 b1 b2 hroom).mono ?_
    rintro e w' ⟨rfl, v', hn⟩
    exact ⟨0, rfl, ⟨rfl, v', hn⟩, hn.calls_cell⟩
  · rintro e w' ⟨er, w1, rfl, ⟨rfl, v', hn⟩, rfl⟩
    refine ⟨0, rfl, rfl, v', ?_⟩
    have := (hn.count (er := 0)).ahead hb
    simpa using this
end
end Go.Proofs.Ytjfohnkfcfifeaa
