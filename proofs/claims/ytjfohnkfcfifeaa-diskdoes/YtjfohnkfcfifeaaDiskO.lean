/-
  pannierlaw03.lives answers true; nothing that was there is written.
-/
import Derived.Test.YtjfohnkfcfifeaaDiskJ0
import Derived.Test.YtjfohnkfcfifeaaDiskJ
import Derived.Test.YtjfohnkfcfifeaaDiskN
import Derived.Lib.SlBytesConst
namespace Go.Proofs.Ytjfohnkfcfifeaa
open Go.RowKit Go.Maps

/-- A disk whose blocks all lie at B or behind; nothing ahead of B has turned since w. -/
def DiskIn (B : Nat) (w wr : World) (p bm : Nat) (size c : Int) (fs : List Fl) : Prop := ∃ D, DiskAt wr p bm size c fs D ∧ (∀ i, DFoot p bm fs i → B ≤ i) ∧ Below B w wr ∧ B ≤ wr.heap.size
section
variable {B : Nat} {w w1 w2 : World} {p bm : Nat} {size c c' : Int} {fs fs' : List Fl}
theorem DiskIn.now (h : DiskIn B w w1 p bm size c fs) (hn : Now w1 w2 p bm size c' fs fs') : DiskIn B w w2 p bm size c' fs' := by
  obtain ⟨D, hd, hF, hb, hB⟩ := h
  obtain ⟨D', hd', ht, hf⟩ := hn
  refine ⟨D', hd', fun i hi => ?_, hb.trans (ht.below hF hB), Nat.le_trans hB ht.size⟩
  rcases hf i hi with h1 | h1
  · exact hF i h1
  · omega
theorem DiskIn.below (h : DiskIn B w w1 p bm size c fs) (hb2 : Below w1.heap.size w1 w2) : DiskIn B w w2 p bm size c fs := by
  obtain ⟨D, hd, hF, hb, hB⟩ := h
  exact ⟨D, hd.below hb2 (Nat.le_refl _), hF, hb.trans (hb2.mono hB), Nat.le_trans hB hb2.size⟩
theorem DiskIn.new (w : World) (x : Int) (h0 : 0 ≤ x) (h1 : x ≤ 268435456) : DiskIn w.heap.size w ((w.alloc (.map #[] 0)).alloc (.cells #[.int .i64 x, .map (some w.heap.size), .int .i64 (-1)] 51)) (w.heap.size + 1) w.heap.size x (-1) [] := by
  refine ⟨_, DiskAt.new w x h0 h1, ?_, ((Below.refl _ w).alloc (Nat.le_refl _) _).alloc (by simp) _, by simp; omega⟩
  rintro i (e | e | ⟨f, hf, _⟩)
  · omega
  · omega
  · cases hf
end

/-- A constant's two bytes. -/
def two (w : World) (x y : Int) : World := w.alloc (.cells #[.int .u8 x, .int .u8 y] 5 (2, 3))
theorem conv_two (W : World) (x y : Int) : (convert 31 31 (.slice (some ⟨W.heap.size, 0, none⟩) 2 2)).run Try.prog (W.alloc (.cells #[.int .u8 x, .int .u8 y] 5)) = .ok (.slice (some ⟨W.heap.size, 0, none⟩) 2 2) (two W x y) := Lib.run_convert_bytes_const W 31 5 #[.int .u8 x, .int .u8 y] 2 2 Try.underlying31 Try.underlying5
theorem held_two (w : World) (x y : Int) (h : AllB [x, y]) : Held (two w x y) (some ⟨w.heap.size, 0, none⟩) 2 2 [x, y] := by
  refine ⟨rfl, Nat.le_refl _, by unfold maxLen; decide, fun e => (by cases e), h, fun ad ha j hj => ?_, fun ad ha _ => ?_⟩
  · cases ha
    rw [Addr.add_lit, Nat.zero_add]
    refine (World.cell?_alloc_mark w _ _ _ j).trans ?_
    match j, hj with
    | 0, _ => rfl
    | 1, _ => rfl
  · cases ha
    simp [two]
theorem file_eq (W : World) : (binOp .eql 47 (.agg #[.string ⟨#[97]⟩, .string ⟨#[120, 121, 122, 122]⟩, .int .i64 2]) (.agg #[.string ⟨#[97]⟩, .string ⟨#[120, 121, 122, 122]⟩, .int .i64 2])).run Try.prog W = .ok (.bool true) W := by kernel_rfl

theorem row_one {w : World} {B e size : Nat} {v : Value} {xs : List Value} (h : w.ownsRow B e size v 1 xs) : ∃ g cap, v = .slice (some ⟨g, 0, none⟩) 1 cap := by
  rcases h.2 with ⟨_, h0⟩ | ⟨g, cap, _, rfl, _⟩
  · cases h0
  · exact ⟨g, cap, rfl⟩
theorem row_cell {w : World} {B e size n g cap : Nat} {xs : List Value} (h : w.ownsRow B e size (.slice (some ⟨g, 0, none⟩) n cap) n xs) {j : Nat} {u : Value} (hu : xs[j]? = some u) : w.cell? ⟨g, j, none⟩ = some u := by
  rcases h.2 with ⟨e, _⟩ | ⟨g', cap', cur, he, _, hg, _, _, _, ht⟩
  · cases e
  · cases he
    have hj := (List.getElem?_eq_some_iff.1 hu).1
    rw [← ht, List.getElem?_take_of_lt (by have := h.1; omega)] at hu
    simp only [World.cell?, hg]
    simpa using hu
theorem torn_one (w : World) (s : ByteArray) (x : Int) (hs : s.size ≤ maxLen) (hx : -9223372036854775808 ≤ x ∧ x ≤ 9223372036854775807) : HeldT (w.alloc (.cells #[.string s, .int .i64 x] 53)) (some ⟨w.heap.size, 0, none⟩) [(s, x)] := by
  refine ⟨fun t ht => ?_, fun t ht => ?_, by simp, .inr ⟨w.heap.size, 0, rfl, by simp, fun j hj => ?_⟩⟩
  · simp at ht
    subst ht
    exact hs
  · simp at ht
    subst ht
    exact hx
  · have hj0 : j = 0 := by simp at hj; omega
    subst hj0
    have hb := Blk.new w 53 [.string s, .int .i64 x]
    exact ⟨hb.cell (i := 0) rfl, hb.cell (i := 1) rfl⟩

set_option maxRecDepth 100000 in
set_option maxHeartbeats 1000000 in
theorem dlives_any (w : World) : Calls Try.prog 7 #[] w fun e w' => e = .returned (.bool true) ∧ Below w.heap.size w w' := by
  go_enter Try.func7, Try.ntmps7
  go_wp2_with fail
  refine (dnew_good w 9 (by decide) (by decide)).mono ?_
  rintro e w1 ⟨rfl, h'⟩
  have HN : Hid (DiskIn w.heap.size w w1 (w.heap.size + 1) w.heap.size 9 (-1) []) := by subst h'; exact DiskIn.new w 9 (by decide) (by decide)
  clear h'
  generalize hp : w.heap.size + 1 = p at *
  clear hp
  have hcv := fun W x y => conv_two W x y
  go_wp2_with fail
  obtain ⟨D1, hd1, hF1, hb1, hB1⟩ := (HN.out.below (boxed_below w1 (.cells #[.int .u8 120, .int .u8 121] 5 (2, 3))))
  have HN1 : Hid (DiskIn w.heap.size w (two w1 120 121) p w.heap.size 9 (-1) []) := ⟨D1, hd1, hF1, hb1, hB1⟩
  refine (append_new hd1 (by decide) ⟨#[97]⟩ (by unfold maxLen; decide) (by decide) rfl (by decide) _ 2 2 [120, 121] (held_two w1 120 121 (by intro c hc; simp at hc; omega)) (by decide)).mono ?_
  rintro e w2 ⟨er, rfl, rfl, q, v2, hn2⟩
  have HN2 : Hid (DiskIn w.heap.size w w2 p w.heap.size 9 (-1) [⟨⟨#[97]⟩, q, v2, [120, 121], 0⟩]) := HN1.out.now hn2
  clear hd1 hF1 hb1 hB1 hn2 HN1 HN
  go_wp2_with fail
  obtain ⟨D2, hd2, hF2, hb2, hB2⟩ := HN2.out
  refine (sync_ok hd2 (by decide) ⟨#[97]⟩ (by unfold maxLen; decide) (f := ⟨⟨#[97]⟩, q, v2, [120, 121], 0⟩) (by simp [ffind])).mono ?_
  rintro e w3 ⟨rfl, hn3⟩
  have HN3 : Hid (DiskIn w.heap.size w w3 p w.heap.size 9 (-1) [⟨⟨#[97]⟩, q, v2, [120, 121], 2⟩]) := by
    refine hid ?_
    have := HN2.out.now hn3
    simpa [setF, Fl.synced, counted] using this
  clear hd2 hF2 hb2 hB2 hn3 HN2
  go_wp2_with fail
  obtain ⟨D4, hd4, hF4, hb4, hB4⟩ := (HN3.out.below (boxed_below w3 (.cells #[.int .u8 122, .int .u8 122] 5 (2, 3))))
  have HN4 : Hid (DiskIn w.heap.size w (two w3 122 122) p w.heap.size 9 (-1) [⟨⟨#[97]⟩, q, v2, [120, 121], 2⟩]) := ⟨D4, hd4, hF4, hb4, hB4⟩
  refine (append_old hd4 (by decide) ⟨#[97]⟩ (by unfold maxLen; decide) (by decide) (f := ⟨⟨#[97]⟩, q, v2, [120, 121], 2⟩) (by simp [ffind]) _ 2 2 [122, 122] (held_two w3 122 122 (by intro c hc; simp at hc; omega)) (by simp [total])).mono ?_
  rintro e w5 ⟨er, rfl, rfl, v5, hn5⟩
  have HN5 : Hid (DiskIn w.heap.size w w5 p w.heap.size 9 (-1) [⟨⟨#[97]⟩, q, v5, [120, 121, 122, 122], 2⟩]) := by
    refine hid ?_
    have := HN4.out.now hn5
    simpa [setF, counted] using this
  clear hd4 hF4 hb4 hB4 hn5 HN4 HN3
  go_wp2_with fail
  obtain ⟨D5, hd5, hF5, hb5, hB5⟩ := HN5.out
  have hlt5 := hd5.foot_lt
  refine (files_any hd5).mono ?_
  rintro e w6 ⟨vf, rfl, gs, hperm, _, hown, hb6⟩
  have hgs := List.perm_singleton.1 hperm
  subst hgs
  obtain ⟨g, capf, hvf⟩ := row_one hown
  subst hvf
  have HN6 := hid (HN5.out.below hb6)
  have HO6 := hid hown
  have HL5 := hid hlt5
  have HS6 := hid hb6.size
  clear hd5 hF5 hb5 hB5 hb6 hown hperm HN5 hlt5
  go_wp2_with fail
  obtain ⟨D7, hd7, hF7, hb7, hB7⟩ := HN6.out.below (boxed_below w6 (.cells #[.string ⟨#[97]⟩, .int .i64 1] 53))
  have HN7 : Hid (DiskIn w.heap.size w (w6.alloc (.cells #[.string ⟨#[97]⟩, .int .i64 1] 53)) p w.heap.size 9 (-1) [⟨⟨#[97]⟩, q, v5, [120, 121, 122, 122], 2⟩]) := ⟨D7, hd7, hF7, hb7, hB7⟩
  refine (crash_ok hd7 (some ⟨w6.heap.size, 0, none⟩) 1 [(⟨#[97]⟩, 1)] (torn_one w6 ⟨#[97]⟩ 1 (by unfold maxLen; decide) (by decide)) ⟨⟨rfl, by decide, _, (by simp [ffind]; rfl), by simp⟩, trivial⟩).mono ?_
  rintro e w8 ⟨rfl, V, hn8⟩
  have HN8 : Hid (DiskIn w.heap.size w w8 p w.heap.size 9 (-1) [⟨⟨#[97]⟩, q, V ⟨#[97]⟩, [120, 121, 122], 3⟩]) := by
    refine hid ?_
    have := HN7.out.now hn8
    simpa [fell, fellOne, fall, tfind, Fl.cutTo] using this
  have hrow8 : w8.ownsRow w5.heap.size 47 3 (.slice (some ⟨g, 0, none⟩) 1 capf) 1 (flatF [⟨⟨#[97]⟩, q, v5, [120, 121, 122, 122], 2⟩]) := by
    obtain ⟨D', _, ht, _⟩ := hn8
    refine ht.row (HO6.out.alloc _) (fun g' hg' hF => ?_)
    have h1 := HL5.out g' hF
    have h2 := (HO6.out.lt g' hg').1
    omega
  have r0 := row_cell hrow8 (j := 0) rfl
  have r1 := row_cell hrow8 (j := 1) rfl
  have r2 := row_cell hrow8 (j := 2) rfl
  rw [show strOfNums [120, 121, 122, 122] = ⟨#[120, 121, 122, 122]⟩ from rfl] at r1
  have heq := fun W => file_eq W
  clear hd7 hF7 hb7 hB7 hn8 hrow8 HN7 HN6 HO6
  go_wp2_with fail
  obtain ⟨D8, hd8, hF8, hb8, hB8⟩ := HN8.out
  have hrd := read_any hd8 ⟨#[97]⟩ (by unfold maxLen; decide) (f := ⟨⟨#[97]⟩, q, V ⟨#[97]⟩, [120, 121, 122], 3⟩) (by simp [ffind])
  rw [show strOfNums [120, 121, 122] = ⟨#[120, 121, 122]⟩ from rfl] at hrd
  refine hrd.mono ?_
  rintro e w9 ⟨rfl, h'⟩
  subst h'
  clear hrd hd8 hF8 hb8 hB8
  go_wp2_with fail
  obtain ⟨D8, hd8, hF8, hb8, hB8⟩ := HN8.out
  have hlf := left_any hd8
  rw [show (9 : Int) - (total [⟨⟨#[97]⟩, q, V ⟨#[97]⟩, [120, 121, 122], 3⟩] : Nat) = 6 by simp [total]] at hlf
  refine hlf.mono ?_
  rintro e w10 ⟨rfl, hb10⟩
  have HB : Hid (Below w.heap.size w w10) := hb8.trans (hb10.mono hB8)
  clear hlf hd8 hF8 hb8 hB8 hb10
  go_wp2
  go_ret
  exact ⟨rfl, HB.out⟩
end Go.Proofs.Ytjfohnkfcfifeaa
