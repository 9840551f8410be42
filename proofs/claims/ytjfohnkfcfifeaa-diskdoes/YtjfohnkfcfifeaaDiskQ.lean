/-
  Package disk: Cut at any input.
-/
import Derived.Test.YtjfohnkfcfifeaaDiskM
import Derived.Deep.RegionWith
namespace Go.Proofs.Ytjfohnkfcfifeaa
open Go.RowKit Go.Maps

section
attribute [local go_sem] undef
variable {w : World} {p bm : Nat} {size calls : Int} {fs : List Fl} {D : DataW Value}
set_option maxRecDepth 100000 in
theorem cut1_bad {f : Fl} (hf : FlAt w f) (a : Nat) (x : Int) (ha : Blk w a 3 [.int .i64 x]) (hx : x < 0 ∨ (f.bytes.length : Int) < x) : Calls Try.prog 53 #[.pointer (some ⟨f.ptr, 0, none⟩), .pointer (some ⟨a, 0, none⟩)] w fun e w' => e = .returned (.int .i64 1) ∧ ∃ q, w' = w.drewN q := by
  obtain ⟨ao, cap, hv, hh⟩ := flAt_held hf
  have c0 := hf.blk.cell (i := 0) rfl
  rw [hv] at c0
  have ca := ha.cell (i := 0) rfl
  clear hf hv ha hh
  by_cases h0 : x < 0
  · go_enter Try.func53, Try.ntmps53
    go_wp2
    first | (go_region_with (fail)) | skip
    all_goals
      go_wp2
      go_ret
      exact ⟨rfl, _, rfl⟩
  · have h1 : (f.bytes.length : Int) < x := by omega
    have h0' : decide (x < 0) = false := by rw [decide_eq_false_iff_not]; exact h0
    go_enter Try.func53, Try.ntmps53
    go_wp2
    first | (go_region_held3 (fun V => V.cell? ⟨f.ptr, 0, none⟩ = some (.slice ao f.bytes.length cap) ∧ V.cell? ⟨a, 0, none⟩ = some (.int .i64 x)) (go_keep) (fail)) | skip
    all_goals
      go_wp2
      go_ret
      exact ⟨rfl, _, rfl⟩
set_option maxRecDepth 100000 in
theorem cut1_ok {f : Fl} (hf : FlAt w f) (a : Nat) (n : Nat) (ha : Blk w a 3 [.int .i64 n]) (hx : n ≤ f.bytes.length) : Calls Try.prog 53 #[.pointer (some ⟨f.ptr, 0, none⟩), .pointer (some ⟨a, 0, none⟩)] w fun e w' => e = .returned (.int .i64 0) ∧ ∃ v, FlAt w' (f.cutTo n v) ∧ v.ownBlock = f.v.ownBlock ∧ Turns (fun i => i = f.ptr) w w' := by
  obtain ⟨ao, cap, hv, hh⟩ := flAt_held hf
  have c0 := hf.blk.cell (i := 0) rfl
  rw [hv] at c0
  have ca := ha.cell (i := 0) rfl
  have h0 : ¬ (n : Int) < 0 := by omega
  have h1 : ¬ (f.bytes.length : Int) < (n : Int) := by omega
  have h2 : decide ((f.bytes.length : Int) < (n : Int)) = false := by rw [decide_eq_false_iff_not]; exact h1
  have h3 : decide ((n : Int) < 0) = false := by rw [decide_eq_false_iff_not]; exact h0
  have HF := hid hf
  clear hf hv ha hh
  go_enter Try.func53, Try.ntmps53
  go_wp2
  first | (go_region_held3 (fun V => V.cell? ⟨f.ptr, 0, none⟩ = some (.slice ao f.bytes.length cap) ∧ V.cell? ⟨a, 0, none⟩ = some (.int .i64 n)) (go_keep) (fail)) | skip
  go_wp2_with fail
  refine (cut_any (w := w.drew) ⟨HF.out.blk, HF.out.row, HF.out.byte, HF.out.sure⟩ n hx).mono ?_
  rintro e w3 ⟨rfl, v, hfl, hob, ht⟩
  have HFL := hid hfl
  have HOB := hid hob
  have HT := hid ht
  clear hfl hob ht
  go_wp2
  go_ret
  exact ⟨rfl, v, HFL.out, HOB.out, ⟨HT.out.os, HT.out.tape, HT.out.output, HT.out.size, HT.out.block⟩⟩
end
section
variable {w : World} {p bm : Nat} {size calls : Int} {fs : List Fl} {D : DataW Value}
/-- A file that is cut. -/
theorem Now.cut {w3 : World} (h : DiskAt w p bm size calls fs D) {f : Fl} (hf : f ∈ fs) {n : Nat} {v : Value} (hn : n ≤ f.bytes.length) (hfl : FlAt w3 (f.cutTo n v)) (hob : v.ownBlock = f.v.ownBlock) (ht : Turns (fun i => i = f.ptr) w w3) : Now w w3 p bm size calls fs (setF fs (f.cutTo n v)) := by
  refine Now.wrote h (f := f) (f' := f.cutTo n v) (ffind_self h.names hf) rfl hfl (ht.mono (fun i hi => .inl hi)) (fun i hi => .inl ?_) ?_
  · rcases hi with e | e
    · exact .inl e
    · exact .inr (by rw [← hob]; exact e)
  · have := h.room
    simp [Fl.cutTo]
    omega
/-- What comes of a Cut. -/
def CutTo (w w' : World) (p bm : Nat) (size calls : Int) (fs : List Fl) (s : ByteArray) (x er : Int) : Prop :=
  (ffind fs s = none ∧ er = 4 ∧ Now w w' p bm size calls fs fs) ∨
  (∃ f, ffind fs s = some f ∧ (x < 0 ∨ (f.bytes.length : Int) < x) ∧ er = 1 ∧ Now w w' p bm size calls fs fs) ∨
  (∃ f v, ffind fs s = some f ∧ 0 ≤ x ∧ x ≤ f.bytes.length ∧ er = 0 ∧ Now w w' p bm size (counted calls) fs (setF fs (f.cutTo x.toNat v)))
theorem cut_do (w : World) (p : Nat) (s : ByteArray) (x : Int) (R : Int → World → Prop)
    (hch : Calls Try.prog 23 #[.pointer (some ⟨p, 0, none⟩), .string s, .func (.func 53) #[] #[.pointer (some ⟨w.heap.size, 0, none⟩)]] (w.alloc (.cells #[.int .i64 x] 3)) fun e w' => ∃ er, e = .returned (.int .i64 er) ∧ R er w') :
    Calls Try.prog 27 #[.pointer (some ⟨p, 0, none⟩), .string s, .int .i64 x] w fun e w' => ∃ er, e = .returned (.int .i64 er) ∧ R er w' := by
  have HCH := hid hch
  clear hch
  go_enter Try.func27, Try.ntmps27
  go_wp2_with fail
  refine HCH.out.mono ?_
  rintro e w1 ⟨er, rfl, hR⟩
  have HR := hid hR
  clear hR
  go_wp2
  go_ret
  exact ⟨er, rfl, HR.out⟩
theorem cut_op (h : DiskAt w p bm size calls fs D) (hc : calls ≠ 0) (s : ByteArray) (hs : s.size ≤ maxLen) (x : Int) :
    Calls Try.prog 27 #[.pointer (some ⟨p, 0, none⟩), .string s, .int .i64 x] w fun e w' => ∃ er, e = .returned (.int .i64 er) ∧ CutTo w w' p bm size calls fs s x er := by
  refine cut_do w p s x _ ?_
  have hb : Below w.heap.size w (w.alloc (.cells #[.int .i64 x] 3)) := (Below.refl _ w).alloc (Nat.le_refl _) _
  have hbox := Blk.new w 3 [.int .i64 x]
  have hbox : Blk (w.alloc (.cells #[.int .i64 x] 3)) w.heap.size 3 [.int .i64 x] := hbox
  generalize w.alloc (.cells #[.int .i64 x] 3) = W at *
  have hW := h.below hb (Nat.le_refl _)
  cases hf : ffind fs s with
  | none =>
    refine (fileOp_none hW hc s hs hf _ _).mono ?_
    rintro e w' ⟨er, rfl, rfl, hn⟩
    exact ⟨4, rfl, .inl ⟨hf, rfl, hn.ahead hb⟩⟩
  | some f =>
    have hm := (ffind_mem hf).1
    by_cases hx : x < 0 ∨ (f.bytes.length : Int) < x
    · refine (fileOp_do hW hc s hs hf 53 #[.pointer (some ⟨w.heap.size, 0, none⟩)] (.inr (.inl ⟨rfl, _, rfl⟩)) (fun er fs' => er = 1 ∧ fs' = fs) (fun V DV hV hbV => ?_)).mono ?_
      · refine (cut1_bad (hV.files f hm) w.heap.size x (hbox.below hbV hbox.lt) hx).mono ?_
        rintro e w' ⟨rfl, q, rfl⟩
        exact ⟨1, fs, rfl, ⟨rfl, rfl⟩, Now.same hV (dn_below V q)⟩
      · rintro e w' ⟨er, rfl, fs', ⟨rfl, rfl⟩, hn⟩
        rw [if_neg (by decide)] at hn
        exact ⟨1, rfl, .inr (.inl ⟨f, hf, hx, rfl, hn.ahead hb⟩)⟩
    · have h0 : 0 ≤ x := by omega
      have h1 : x ≤ f.bytes.length := by omega
      obtain ⟨n, rfl⟩ : ∃ n : Nat, x = n := ⟨x.toNat, by omega⟩
      refine (fileOp_do hW hc s hs hf 53 #[.pointer (some ⟨w.heap.size, 0, none⟩)] (.inr (.inl ⟨rfl, _, rfl⟩)) (fun er fs' => er = 0 ∧ ∃ v, fs' = setF fs (f.cutTo n v)) (fun V DV hV hbV => ?_)).mono ?_
      · refine (cut1_ok (hV.files f hm) w.heap.size n (hbox.below hbV hbox.lt) (by omega)).mono ?_
        rintro e w' ⟨rfl, v, hfl, hob, ht⟩
        exact ⟨0, _, rfl, ⟨rfl, v, rfl⟩, Now.cut hV hm (by omega) hfl hob ht⟩
      · rintro e w' ⟨er, rfl, fs', ⟨rfl, v, rfl⟩, hn⟩
        rw [if_pos rfl] at hn
        exact ⟨0, rfl, .inr (.inr ⟨f, v, hf, h0, h1, rfl, hn.ahead hb⟩)⟩
end
end Go.Proofs.Ytjfohnkfcfifeaa
