/-
  pannierlaw15.lives.
-/
import Derived.Test.YtdceenejijigdaaBalF
namespace Go.Proofs.Ytdceenejijigdaa
open Go.RowKit Go.Maps

def voA : VoM := ⟨2, (1, 2), ⟨⟨false, ⟨#[98]⟩, ⟨#[]⟩, 0, []⟩, none, 0⟩⟩
def voB : VoM := ⟨2, (1, 0), ⟨⟨false, ⟨#[97]⟩, ⟨#[]⟩, 0, []⟩, none, 0⟩⟩
theorem best2 : bestTo [voA, voB] 2 2 = 0 := by decide
theorem ok2 (w : World) : AllVo w [voA, voB] := by
  intro x hx
  simp only [List.mem_cons, List.not_mem_nil, or_false] at hx
  rcases hx with rfl | rfl
  · exact ⟨⟨hv_none w 0, by unfold I64; decide, by decide, by decide⟩, by unfold I64; decide, by unfold I64; decide, by unfold I64; decide⟩
  · exact ⟨⟨hv_none w 0, by unfold I64; decide, by decide, by decide⟩, by unfold I64; decide, by unfold I64; decide, by unfold I64; decide⟩
theorem held2 (w : World) : HeldVo (w.alloc (.cells (flatVo [voA, voB]).toArray 55)) (some ⟨w.heap.size, 0, none⟩) [voA, voB] := by
  refine ⟨ok2 _, .inr ⟨w.heap.size, 0, rfl, by simp, fun j hj c u hu => ?_⟩⟩
  rw [Nat.zero_add]
  exact (Blk.new w 55 (flatVo [voA, voB])).cell (flatVo_get _ j hj c u hu)
theorem add3 {V : World} {p : Nat} {f : Nat → Bool} (h : VotesAt V p 3 f) (x : Int) (k : Nat) (hx : x = (k : Int)) (hk : k < 3) (b : Bool) (hb : f k = b) : Calls Try.prog 23 #[.pointer (some ⟨p, 0, none⟩), .int .i64 x] V fun e w' => e = .returned (.bool (!b)) ∧ VotesAt w' p 3 (addV f k) ∧ Turns (fun i => i = p) V w' := by
  subst hx hb
  exact addVotes_in h k (by omega)
theorem enough3 {V : World} {p : Nat} {f : Nat → Bool} (h : VotesAt V p 3 f) (b : Bool) (hb : decide (2 ≤ cntF f 7) = b) : Calls Try.prog 25 #[.pointer (some ⟨p, 0, none⟩)] V fun e w' => e = .returned (.bool b) ∧ ∃ q, w' = V.drewN q := by
  subst hb
  have := enoughV h
  rw [show quorum 3 = 2 from rfl] at this
  refine this.mono fun e w' hh => ⟨?_, hh.2⟩
  rw [hh.1]
  exact ret_bool (by rw [Bool.eq_iff_iff]; simp only [decide_eq_true_eq]; omega)
theorem livesBal (w : World) : Calls Try.prog 11 #[] w fun e w' => e = .returned (.bool true) ∧ Below w.heap.size w w' := by
  obtain ⟨W1, hW1⟩ : ∃ W, W = w.alloc (.cells (flatVo [voA, voB]).toArray 55) := ⟨_, rfl⟩
  have HB1 : Hid (Below w.heap.size w W1) := by rw [hW1]; exact (Below.refl _ _).alloc (Nat.le_refl _) _
  have HP : Hid (Calls Try.prog 16 #[.slice (some ⟨w.heap.size, 0, none⟩) 2 2, .int .i64 2] W1 (PickP W1 [voA, voB] 2)) := pickBal W1 _ 2 [voA, voB] 2 rfl 2 (by rw [hW1]; exact held2 w) (by omega)
  have HW1 : Hid (W1 = w.alloc (.cells #[.int .i64 2, .int .i64 1, .int .i64 2, .bool false, .string ⟨#[98]⟩, .string ⟨#[]⟩, .int .i64 0, .slice none 0 0, .int .i64 2, .int .i64 1, .int .i64 0, .bool false, .string ⟨#[97]⟩, .string ⟨#[]⟩, .int .i64 0, .slice none 0 0] 55)) := hW1
  clear hW1
  go_enter Try.func11, Try.ntmps11
  go_wp2_with fail
  rw [← HW1.out]
  refine HP.out.mono ?_
  rintro e w2 (⟨h0, _⟩ | ⟨b, hb0, hbl, bo, cp, rfl, hv, hb⟩)
  · exact absurd (best2.symm.trans h0) (by decide)
  · have hb00 : b = 0 := by
      have : ((b : Nat) : Int) = 0 := hb0.symm.trans best2
      omega
    subst hb00
    have HB2 := hid (bt' HB1.out hb)
    clear hb0 hbl hv hb HP
    simp only [EnM.val]
    have he : ([voA, voB] : List VoM).getD 0 default = voA := rfl
    rw [he]
    simp only [voA, List.length_nil]
    have HV := hid (fun V : World => newVotes (w := V) (n := 3) (by omega))
    go_wp2_with fail
    refine (HV.out _).mono ?_
    rintro e w3 ⟨rfl, hv3, hb3⟩
    obtain ⟨V, hV⟩ : ∃ V, V = w2.alloc (.cells #[.bool false, .string ⟨#[98]⟩, .string ⟨#[]⟩, .int .i64 0, .slice bo 0 cp] 36) := ⟨_, rfl⟩
    rw [← hV] at hv3 hb3
    have HBV : Hid (Below w.heap.size w V) := by rw [hV]; exact HB2.out.alloc HB2.out.size _
    have HKV : Hid (Blk V w2.heap.size 36 [.bool false, .string ⟨#[98]⟩, .string ⟨#[]⟩, .int .i64 0, .slice bo 0 cp]) := by rw [hV]; exact Blk.new w2 _ _
    have ck := (HKV.out.below hb3 HKV.out.lt).cell (i := 1) rfl
    have HB3 := hid (bt' HBV.out hb3)
    have HS : Hid (w.heap.size ≤ V.heap.size) := HBV.out.size
    have HQ := hid (fun W => quorumB W 5)
    rw [show quorum 5 = 3 from rfl] at HQ
    obtain ⟨p, hp⟩ : ∃ p, p = V.heap.size := ⟨_, rfl⟩
    rw [← hV, ← hp]
    rw [← hp] at hv3 HS
    have H3 := hid hv3
    clear hv3 hb3 hV hp
    go_wp2_with fail
    refine (add3 H3.out 1 1 rfl (by omega) false rfl).mono ?_
    rintro e w4 ⟨rfl, hv4, ht4⟩
    have H4 := hid hv4
    have HB4 : Hid (Below w.heap.size w w4) := HB3.out.trans (ht4.below (fun i hi => by have := HS.out; omega) HB3.out.size)
    clear hv4 ht4
    simp only [Bool.not_false]
    go_wp2_with fail
    refine (add3 H4.out 1 1 rfl (by omega) true rfl).mono ?_
    rintro e w5 ⟨rfl, hv5, ht5⟩
    have H5 := hid hv5
    have HB5 : Hid (Below w.heap.size w w5) := HB4.out.trans (ht5.below (fun i hi => by have := HS.out; omega) HB4.out.size)
    clear hv5 ht5
    simp only [Bool.not_true]
    go_wp2_with fail
    refine (enough3 H5.out false (by decide)).mono ?_
    rintro e w6 ⟨rfl, q6, rfl⟩
    have H6 := hid (H5.out.dn q6)
    have HB6 := hid (below_dn HB5.out q6)
    go_wp2_with fail
    refine (add3 H6.out 0 0 rfl (by omega) false (by decide)).mono ?_
    rintro e w7 ⟨rfl, hv7, ht7⟩
    have H7 := hid hv7
    have HB7 : Hid (Below w.heap.size w w7) := HB6.out.trans (ht7.below (fun i hi => by have := HS.out; omega) HB6.out.size)
    clear hv7 ht7
    simp only [Bool.not_false]
    go_wp2_with fail
    refine (enough3 H7.out true (by decide)).mono ?_
    rintro e w8 ⟨rfl, q8, rfl⟩
    have HB8 := hid (below_dn HB7.out q8)
    go_wp2_with fail
    refine (HQ.out _).mono ?_
    rintro e w9 ⟨rfl, rfl⟩
    go_wp2
    go_ret
    exact ⟨rfl, HB8.out⟩
end Go.Proofs.Ytdceenejijigdaa
