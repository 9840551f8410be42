/-
  frame.All at nil and at any bytes, and 'pannierlaw02.lives': true in whatever memory in which the table of remainders lies.
-/
import Derived.Test.YtmokelmeihmeiabDoorFEnd
import Derived.Lib.SliceRun
import Derived.Lib.SlBytesConst
namespace Go.Proofs.YtmokelmeihmeiabDoor
open Go.RowKit

theorem clone_nil (w : World) : Calls Tryd.prog 22 #[.slice none 0 0] w fun e w' => e = .returned (.slice none 0 0) ∧ w' = w := by
  go_enter Tryd.func22, Tryd.ntmps22
  have hq := fun W => Lib.run_eql_slice_nil (P := Tryd.prog) W 22 5 none 0 0 0 0 Tryd.underlying22
  go_wp2
  go_ret
  exact ⟨rfl, rfl⟩

theorem all_nil (w : World) : Calls Tryd.prog 14 #[.slice none 0 0] w fun e w' => (∃ n, e = .returned (.func (.func 24) #[] #[.pointer (some ⟨n, 0, none⟩)])) ∧ Below w.heap.size w w' := by
  go_enter Tryd.func14, Tryd.ntmps14
  go_wp2_with fail
  refine (clone_nil _).mono ?_
  rintro e w' ⟨rfl, h'⟩
  subst h'
  go_wp2_with fail
  refine (frames_any _ _ _ _).mono ?_
  rintro e w1 ⟨rfl, h'⟩
  subst h'
  go_wp2
  go_ret
  exact ⟨⟨_, rfl⟩, (Below.refl _ _).alloc (Nat.le_refl _) _⟩

theorem all_there (n : Nat) (W : World) : (binOp .neq 35 (.func (Fn.func 24) #[] #[.pointer (some ⟨n, 0, none⟩)]) .nilFunc).run Tryd.prog W = .ok (.bool true) W := by kernel_rfl

/-- A new block of bytes with a mark, read as a slice. -/
theorem held_mark (w : World) (bs : List Int) (cs : Array Value) (t : TypeId) (fr : Nat × Nat) (hcs : cs = (nums bs).toArray) (hb : AllB bs) (hm : bs.length ≤ maxLen) : Held (w.alloc (.cells cs t fr)) (some ⟨w.heap.size, 0, none⟩) bs.length bs.length bs := by
  subst hcs
  refine ⟨rfl, Nat.le_refl _, hm, fun h => (by cases h), hb, fun ad h j hj => ?_, fun ad h _ => ?_⟩
  · obtain rfl := Option.some.inj h
    rw [Addr.add_lit]
    have hg := heap_alloc_new w (.cells (nums bs).toArray t fr)
    have := cell_of_row (w.alloc (.cells (nums bs).toArray t fr)) w.heap.size j (nums bs).toArray t fr hg
    rw [Nat.zero_add, this]
    simp [nums, List.getD, List.getElem?_eq_getElem hj]
  · obtain rfl := Option.some.inj h
    simp

theorem put_one (w : World) (n : Nat) (hn : n = w.heap.size) (ht : Tab w) :
    Calls Tryd.prog 6 #[.slice (some ⟨n, 0, none⟩) 1 1, .string ⟨#[]⟩] (w.alloc (.cells #[.int .u8 1] 5)) fun e w' => ∃ bo cp, e = .returned (.tuple #[.slice bo 9 cp, .int .i64 0]) ∧ Held w' bo 9 cp ([1] ++ frameOf []) ∧ Below w.heap.size w w' := by
  subst hn
  refine (put_any (some ⟨w.heap.size, 0, none⟩) 1 1 [1] ⟨#[]⟩ _ (ht.here ((Below.refl _ w).alloc (Nat.le_refl _) _)) (held_new w [1] #[.int .u8 1] 5 rfl (by unfold AllB; decide) (by decide)) (by decide) (by decide)).mono ?_
  rintro e w' ⟨bo, N, cp, rfl, hh, hb⟩
  have hN : N = 9 := by rw [← hh.hlen]; rfl
  subst hN
  exact ⟨bo, cp, rfl, hh, ((Below.refl _ w).alloc (Nat.le_refl _) _).trans (hb.mono (by simp))⟩

set_option maxHeartbeats 800000 in
theorem lives_any (w : World) (ht : Tab w) : Calls Tryd.prog 8 #[] w fun e w' => e = .returned (.bool true) ∧ Below w.heap.size w w' := by
  go_enter Tryd.func8, Tryd.ntmps8
  go_wp2_with fail
  refine (put_one w _ rfl ht).mono ?_
  rintro e w1 ⟨bo, cp, rfl, hh, hb⟩
  have HT1 := hid (ht.here hb)
  have HH := hid hh
  have HB := hid hb
  have hc9 : 9 ≤ cp := hh.hcap
  have hcut := hh.cutl (l := 1) (by omega)
  have hsl := fun W => run_cut_l (P := Tryd.prog) W 22 5 Tryd.underlying22 Tryd.size5 bo 9 cp 1 1 rfl (by omega)
  rw [show List.drop 1 ([(1 : Int)] ++ frameOf []) = frameOf [] from rfl] at hcut
  have HC := hid hcut
  clear hh hb hcut
  go_wp2_with fail
  have hsc := scan_any _ _ _ _ w1 HT1.out HC.out (by omega) (by decide)
  rw [endOf_eq _ (by decide), lives_scan.1, lives_scan.2] at hsc
  refine hsc.mono ?_
  rintro e w2 ⟨mo, mc, rfl, _, hb2⟩
  have HT2 := hid (HT1.out.here hb2)
  have HB2 : Hid (Below w.heap.size w w2) := HB.out.trans (hb2.mono HB.out.size)
  have hcv := run_convert_held (P := Tryd.prog) (HH.out.below hb2 (Nat.le_refl _)) 22 5 9 Tryd.underlying22 Tryd.underlying5 Tryd.underlying9
  rw [show strOfNums ([(1 : Int)] ++ frameOf []) = ⟨#[1, 0, 0, 0, 0, 72, 103, 75, 199]⟩ from by decide +kernel] at hcv
  have hcb := Lib.run_convert_bytes_const (P := Tryd.prog) w2 22 5 #[.int .u8 49, .int .u8 50, .int .u8 51, .int .u8 52, .int .u8 53, .int .u8 54, .int .u8 55, .int .u8 56, .int .u8 57] 9 9 Tryd.underlying22 Tryd.underlying5
  have hft := fun n W => all_there n W
  clear hb2 hsc
  go_wp2_with fail
  have hsum := sum_any _ _ _ _ _ (HT2.out.here ((Below.refl _ w2).alloc (Nat.le_refl _) _)) (held_mark w2 [49, 50, 51, 52, 53, 54, 55, 56, 57] #[.int .u8 49, .int .u8 50, .int .u8 51, .int .u8 52, .int .u8 53, .int .u8 54, .int .u8 55, .int .u8 56, .int .u8 57] 5 (9, 10) rfl (by unfold AllB; decide) (by decide))
  rw [show crc [49, 50, 51, 52, 53, 54, 55, 56, 57] = 3808858755 from by decide +kernel] at hsum
  refine hsum.mono ?_
  rintro e w3 ⟨rfl, h'⟩
  subst h'
  clear hsum
  go_wp2_with fail
  refine (all_nil _).mono ?_
  rintro e w4 ⟨⟨n, rfl⟩, hb4⟩
  have HB4 : Hid (Below w.heap.size w w4) := (HB2.out.alloc HB2.out.size _).trans (hb4.mono (by have := HB2.out.size; simp; omega))
  clear hb4
  go_wp2
  go_ret
  exact ⟨rfl, HB4.out⟩
end Go.Proofs.YtmokelmeihmeiabDoor
