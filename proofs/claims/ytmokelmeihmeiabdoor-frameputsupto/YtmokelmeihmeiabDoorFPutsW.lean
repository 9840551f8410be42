/-
  pannierlaw02.FramePuts answers true for any bytes of at most 1000000000 and any payload, in whatever memory in which the table of remainders lies; it writes nothing that was there.
-/
import Derived.Test.YtmokelmeihmeiabDoorFLives
import Derived.Test.YtmokelmeihmeiabDoorFRef
namespace Go.Proofs.YtmokelmeihmeiabDoor
open Go.RowKit

def putBytes (bs : List Int) (p : ByteArray) : List Int := if 65536 < p.size then [] else bs ++ frameOf (strNums p)
def putErr (p : ByteArray) : Int := if 65536 < p.size then 20 else 0


theorem put_all (ao : Option Addr) (len cap : Nat) (bs : List Int) (p : ByteArray) (w : World) (ht : Tab w) (h : Held w ao len cap bs) (hl : len ≤ 1000000000000) (hp : p.size ≤ 9223372036854775807) :
    Calls Tryd.prog 6 #[.slice ao len cap, .string p] w fun e w' => ∃ bo N cp, e = .returned (.tuple #[.slice bo N cp, .int .i64 (putErr p)]) ∧ Held w' bo N cp (putBytes bs p) ∧ Below w.heap.size w w' := by
  by_cases hs : 65536 < p.size
  · refine (put_long _ p w hs hp).mono ?_
    rintro e w' ⟨rfl, rfl⟩
    exact ⟨none, 0, 0, by simp [putErr, hs], by simpa [putBytes, hs] using held_nil w', Below.refl _ _⟩
  · refine (put_any ao len cap bs p w ht h hl (by omega)).mono ?_
    rintro e w' ⟨bo, N, cp, rfl, hh, hb⟩
    exact ⟨bo, N, cp, by simp [putErr, hs], by simpa [putBytes, hs] using hh, hb⟩

theorem refPut_all (ao : Option Addr) (len cap : Nat) (bs : List Int) (p : ByteArray) (w : World) (h : Held w ao len cap bs) (hl : len ≤ 1000000000000) (hp : p.size ≤ 9223372036854775807) :
    Calls Tryd.prog 7 #[.slice ao len cap, .string p] w fun e w' => ∃ bo N cp, e = .returned (.tuple #[.slice bo N cp, .int .i64 (putErr p)]) ∧ Held w' bo N cp (putBytes bs p) ∧ Below w.heap.size w w' := by
  by_cases hs : 65536 < p.size
  · refine (refPut_long _ p w hs hp).mono ?_
    rintro e w' ⟨rfl, rfl⟩
    exact ⟨none, 0, 0, by simp [putErr, hs], by simpa [putBytes, hs] using held_nil w', Below.refl _ _⟩
  · refine (refPut_any ao len cap bs p w h hl (by omega)).mono ?_
    rintro e w' ⟨bo, N, cp, rfl, hh, hb⟩
    exact ⟨bo, N, cp, by simp [putErr, hs], by simpa [putBytes, hs] using hh, hb⟩

set_option maxHeartbeats 800000 in
theorem walkFramePuts (ao : Option Addr) (len cap : Nat) (bs : List Int) (p : ByteArray) (w : World) (ht : Tab w) (h : Held w ao len cap bs) (hl : len ≤ 1000000000) (hp : p.size ≤ 9223372036854775807) :
    Calls Tryd.prog 3 #[.slice ao len cap, .string p] w fun e w' => e = .returned (.bool true) ∧ Below w.heap.size w w' := by
  obtain ⟨i0, hi, hz0, hz1, hz2⟩ := info_parts Tryd.info5
  have HH := hid h
  have HT := hid ht
  clear h ht
  have hba : Below w.heap.size w (w.alloc (.cells #[] 5)) := (Below.refl _ w).alloc (Nat.le_refl _) _
  go_enter Tryd.func3, Tryd.ntmps3
  go_wp2_with (at_builtin; refine wpList_append_held _ rfl _ _ 22 rfl w.heap.size 5 i0 Tryd.underlying22 hi hz0 hz1 hz2 _ 0 [] rfl (own_made w _ (Nat.le_refl _)) allb_nil ao len cap bs rfl (HH.out.below hba (Nat.le_refl _)) (by omega) (by simp) ?_)
  intro o1 c1 w1 hown1 hheld1 hb1 _
  have HH1 : Hid (Held w1 o1 len c1 bs) := hid (by simpa using hheld1)
  have HB1 : Hid (Below w.heap.size w w1) := hba.trans hb1
  have s1 := HB1.out.size
  clear hown1 hheld1 hb1 hba
  have HP1 := hid (put_all o1 len c1 bs p w1 (HT.out.here HB1.out) HH1.out (by omega) hp)
  obtain ⟨E, HE⟩ : ∃ E, Hid (putErr p = E) := ⟨_, hid rfl⟩
  rw [HE.out] at HP1
  go_wp2_with fail
  refine HP1.out.mono ?_
  rintro e w2 ⟨o2, n2, c2, rfl, hh2, hb2⟩
  have HH2 := hid hh2
  have HB2 := hid hb2
  have s2 := hb2.size
  clear hh2 hb2 HP1
  have HB02 : Hid (Below w.heap.size w w2) := HB1.out.trans (HB2.out.mono s1)
  have HP2 := hid (refPut_all ao len cap bs p w2 (HH.out.below HB02.out (Nat.le_refl _)) (by omega) hp)
  rw [HE.out] at HP2
  go_wp2_with fail
  refine HP2.out.mono ?_
  rintro e w3 ⟨o3, n3, c3, rfl, hh3, hb3⟩
  have HH3 := hid hh3
  have HB3 := hid hb3
  have s3 := hb3.size
  clear hh3 hb3 HP2
  have HB03 : Hid (Below w.heap.size w w3) := HB02.out.trans (HB3.out.mono (by omega))
  go_wp2_with fail
  refine (lives_any w3 (HT.out.here HB03.out)).mono ?_
  rintro e w4 ⟨rfl, hb4⟩
  have s4 := hb4.size
  have HB4 := hid hb4
  have HB04 : Hid (Below w.heap.size w w4) := HB03.out.trans (hb4.mono (by omega))
  have hx := HH2.out.below (HB3.out.trans (hb4.mono s3)) (Nat.le_refl _)
  have hy := HH3.out.below hb4 (Nat.le_refl _)
  have ho := HH1.out.below (HB2.out.trans ((HB3.out.trans (hb4.mono s3)).mono s2)) (Nat.le_refl _)
  have hb := HH.out.below HB04.out (Nat.le_refl _)
  have hcx := run_convert_held (P := Tryd.prog) hx 22 5 9 Tryd.underlying22 Tryd.underlying5 Tryd.underlying9
  have hcy := run_convert_held (P := Tryd.prog) hy 22 5 9 Tryd.underlying22 Tryd.underlying5 Tryd.underlying9
  have hco := run_convert_held (P := Tryd.prog) ho 22 5 9 Tryd.underlying22 Tryd.underlying5 Tryd.underlying9
  have hcb := run_convert_held (P := Tryd.prog) hb 22 5 9 Tryd.underlying22 Tryd.underlying5 Tryd.underlying9
  have HS1 := hid (sum_any o1 len c1 bs w4 (HT.out.here HB04.out) ho)
  have HS2 := hid (refSum_any ao len cap bs w4 hb)
  obtain ⟨X, HX⟩ : ∃ X, Hid (strOfNums (putBytes bs p) = X) := ⟨_, hid rfl⟩
  obtain ⟨Y, HY⟩ : ∃ Y, Hid (strOfNums bs = Y) := ⟨_, hid rfl⟩
  rw [HX.out] at hcx hcy
  rw [HY.out] at hco hcb
  clear hx hy ho hb hb4
  go_wp2_with fail
  refine HS1.out.mono ?_
  rintro e w5 ⟨rfl, h'⟩
  subst h'
  go_wp2_with fail
  refine HS2.out.mono ?_
  rintro e w6 ⟨rfl, h'⟩
  subst h'
  go_wp2
  go_ret
  exact ⟨rfl, HB04.out⟩

theorem framePuts_walk (ao : Option Addr) (len cap : Nat) (bs : List Int) (p : ByteArray) (w : World) (ht : Tab w) (h : Held w ao len cap bs) (hl : len ≤ 1048576) (hp : p.size ≤ 1048576) :
    Calls Tryd.prog 3 #[.slice ao len cap, .string p] w fun e w' => e = .returned (.bool true) ∧ Below w.heap.size w w' :=
  walkFramePuts ao len cap bs p w ht h (by omega) (by omega)
end Go.Proofs.YtmokelmeihmeiabDoor
