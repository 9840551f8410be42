/-
  slices.Clone and codec.List over strings: new memory with how many items there are, and each as a text; conditions: all lengths together stay small.
-/
import Derived.Test.YtmokelmeihmeiaaListsA
namespace Go.Proofs.Ytmokelmeihmeiaa
open Go.RowKit
attribute [local go_sem ↓] Go.wp_at_zero Go.wp_at_succ

set_option maxRecDepth 100000 in
theorem clone_any (ad : Addr) (n cap : Nat) (bs : List Int) (w : World) (h : Held w (some ad) n cap bs) (hm : n ≤ 140737488355000) :
    Calls Try.prog 38 #[.slice (some ad) n cap] w fun e w' => ∃ bo cp, e = .returned (.slice bo n cp) ∧ Held w' bo n cp bs ∧ Below w.heap.size w w' := by
  obtain ⟨i0, hi, hz0, hz1, hz2⟩ := info_parts Try.info5
  have HH := hid h
  have hnil := fun W => Lib.run_eql_slice_nil (P := Try.prog) W 23 5 (some ad) n cap 0 0 Try.underlying23
  simp only [Option.isNone_some] at hnil
  clear h
  go_enter Try.func38, Try.ntmps38
  have hba : Below w.heap.size w (w.alloc (.cells #[] 5)) := (Below.refl _ w).alloc (Nat.le_refl _) _
  go_wp2_with (at_builtin; refine wpList_append_held _ rfl _ _ 23 rfl w.heap.size 5 i0 Try.underlying23 hi hz0 hz1 hz2 _ 0 [] rfl (own_made w _ (Nat.le_refl _)) (by intro c hc; cases hc) (some ad) n cap bs rfl (HH.out.below hba (Nat.le_refl _)) (by omega) (by simp) ?_)
  intro o1 c1 w1 hown1 hheld1 hb1 _
  have HO1 : Hid (Held w1 o1 n c1 bs) := hid (by simpa using hheld1)
  have HB1 : Hid (Below w.heap.size w w1) := hba.trans hb1
  clear hown1 hheld1 hb1 hba
  go_wp2
  go_ret
  exact ⟨o1, c1, rfl, HO1.out, HB1.out⟩

theorem put_there (W : World) : (binOp .eql 33 (.func (Fn.func 20) #[] #[]) .nilFunc).run Try.prog W = .ok (.bool false) W := by kernel_rfl

theorem ownCopy_held (ao : Option Addr) (len cap : Nat) (bs : List Int) (more : Int) (w : World) (h : Held w ao len cap bs) (h0 : 0 ≤ more) (hm : len + more ≤ 281474976710656) :
    Calls Try.prog 32 #[.slice ao len cap, .int .i64 more] w fun e w' => ∃ bo cp, e = .returned (.slice bo len cp) ∧ w'.ownsRow w.heap.size 5 1 (.slice bo len cp) len (nums bs) ∧ Below w.heap.size w w' := by
  refine (ownCopy_any ao len cap bs more w h h0 hm).mono ?_
  rintro e w' ⟨v, rfl, hown, hb⟩
  obtain ⟨bo, cp, rfl, _⟩ := held_of_own hown h.byte
  exact ⟨bo, cp, rfl, hown, hb⟩

set_option maxRecDepth 100000 in
theorem list_full (ao : Option Addr) (n cap : Nat) (bs : List Int) (b0 off len lcap : Nat) (ls : List ByteArray) (w : World)
    (h : Held w ao n cap bs) (hS : HeldS w (some ⟨b0, off, none⟩) len lcap ls) (hp : 0 < len) (hsum : n + (encAll ls).length ≤ 140737488340000) (hll : len ≤ 9223372036854775807) :
    Calls Try.prog 19 #[.slice ao n cap, .slice (some ⟨b0, off, none⟩) len lcap, .func (Fn.func 20) #[] #[]] w fun e w' => ∃ bo N cp, e = .returned (.slice bo N cp) ∧ Held w' bo N cp (bs ++ enc len ++ encAll ls) ∧ Below w.heap.size w w' := by
  have h10 := enc_le10 (x := len) (by omega)
  have hep := enc_pos len
  have HH := hid h
  have HS := hid hS
  clear h hS
  have hput := put_there
  go_enter Try.func19, Try.ntmps19
  go_wp2_with fail
  refine (ownCopy_held ao n cap bs 10 w HH.out (by omega) (by omega)).mono ?_
  rintro e w1 ⟨o1, c1, rfl, hown1, hb1⟩
  have HO1 := hid hown1
  have HB1 := hid hb1
  clear hown1 hb1
  go_wp2_with fail
  refine (appendList_full o1 n c1 bs b0 off len lcap ls w.heap.size w1 HO1.out HH.out.byte HB1.out.size (fun w' hb' => HS.out.below (HB1.out.trans hb') (Nat.le_refl _)) hp (by omega) hll).mono ?_
  rintro e w2 ⟨o2, N, c2, rfl, hh2, hb2⟩
  have hN : N = n + (enc len).length + (encAll ls).length := by have h3 := hh2.hlen; have h4 := HH.out.hlen; simp only [List.length_append] at h3; omega
  have hNl : N ≤ 140737488350000 := by omega
  obtain ⟨g, go, hg, _, _⟩ := hh2.at (by omega)
  have HG := hid hg
  have HH2 : Hid (Held w2 (some ⟨g, go, none⟩) N c2 (bs ++ enc len ++ encAll ls)) := by rw [← hg]; exact hh2
  have HB2 : Hid (Below w.heap.size w w2) := HB1.out.trans hb2
  clear hh2 hb2 hN hg
  rw [HG.out]
  clear HG
  have s2 := HB2.out.size
  go_wp2_with fail
  refine (clone_any ⟨g, go, none⟩ N c2 _ w2 HH2.out (by omega)).mono ?_
  rintro e w3 ⟨o3, c3, rfl, hh3, hb3⟩
  have HH3 := hid hh3
  have HB3 : Hid (Below w.heap.size w w3) := HB2.out.trans (hb3.mono s2)
  clear hh3 hb3
  go_wp2
  go_ret
  exact ⟨o3, N, c3, rfl, HH3.out, HB3.out⟩

set_option maxRecDepth 100000 in
theorem list_none (ao : Option Addr) (n cap : Nat) (bs : List Int) (lo : Option Addr) (lcap : Nat) (w : World) (h : Held w ao n cap bs) (hsum : n ≤ 140737488340000) :
    Calls Try.prog 19 #[.slice ao n cap, .slice lo 0 lcap, .func (Fn.func 20) #[] #[]] w fun e w' => ∃ bo N cp, e = .returned (.slice bo N cp) ∧ Held w' bo N cp (bs ++ enc 0) ∧ Below w.heap.size w w' := by
  have hep := enc_pos 0
  have h10 := enc_le10 (x := 0) (by omega)
  have HH := hid h
  clear h
  have hput := put_there
  go_enter Try.func19, Try.ntmps19
  go_wp2_with fail
  refine (ownCopy_held ao n cap bs 10 w HH.out (by omega) (by omega)).mono ?_
  rintro e w1 ⟨o1, c1, rfl, hown1, hb1⟩
  have HO1 := hid hown1
  have HB1 := hid hb1
  clear hown1 hb1
  go_wp2_with fail
  refine (appendList_none o1 n c1 bs lo lcap w.heap.size w1 HO1.out HH.out.byte HB1.out.size (by omega)).mono ?_
  rintro e w2 ⟨o2, N, c2, rfl, hh2, hb2⟩
  have hN : N = n + (enc 0).length := by have h3 := hh2.hlen; have h4 := HH.out.hlen; simp only [List.length_append] at h3; omega
  have hNl : N ≤ 140737488350000 := by omega
  obtain ⟨g, go, hg, _, _⟩ := hh2.at (by omega)
  have HG := hid hg
  have HH2 : Hid (Held w2 (some ⟨g, go, none⟩) N c2 (bs ++ enc 0)) := by rw [← hg]; exact hh2
  have HB2 : Hid (Below w.heap.size w w2) := HB1.out.trans hb2
  clear hh2 hb2 hN hg
  rw [HG.out]
  clear HG
  have s2 := HB2.out.size
  go_wp2_with fail
  refine (clone_any ⟨g, go, none⟩ N c2 _ w2 HH2.out (by omega)).mono ?_
  rintro e w3 ⟨o3, c3, rfl, hh3, hb3⟩
  have HH3 := hid hh3
  have HB3 : Hid (Below w.heap.size w w3) := HB2.out.trans (hb3.mono s2)
  clear hh3 hb3
  go_wp2
  go_ret
  exact ⟨o3, N, c3, rfl, HH3.out, HB3.out⟩

theorem list_any (ao : Option Addr) (n cap : Nat) (bs : List Int) (lo : Option Addr) (len lcap : Nat) (ls : List ByteArray) (w : World)
    (h : Held w ao n cap bs) (hS : HeldS w lo len lcap ls) (hsum : n + (encAll ls).length ≤ 140737488340000) (hll : len ≤ 9223372036854775807) :
    Calls Try.prog 19 #[.slice ao n cap, .slice lo len lcap, .func (Fn.func 20) #[] #[]] w fun e w' => ∃ bo N cp, e = .returned (.slice bo N cp) ∧ Held w' bo N cp (bs ++ enc len ++ encAll ls) ∧ Below w.heap.size w w' := by
  by_cases hp : 0 < len
  · obtain ⟨b0, off, rfl, _, _⟩ := hS.at hp
    exact list_full ao n cap bs b0 off len lcap ls w h hS hp hsum hll
  · obtain rfl : len = 0 := by omega
    have : ls = [] := List.eq_nil_of_length_eq_zero hS.hlen
    subst this
    have := list_none ao n cap bs lo lcap w h (by omega)
    simpa [encAll] using this
end Go.Proofs.Ytmokelmeihmeiaa
