/-
  Package dots: Get and has.
-/
import Derived.Test.YtkjpaiaepodhbaaDotsA
namespace Go.Proofs.Ytkjpaiaepodhbaa
open Go.RowKit Go.Maps

theorem get_nil (w : World) (o s : Int) : Calls Try.prog 13 #[.pointer none, .agg #[.int .i64 o, .int .i64 s]] w fun e w' => e = .returned (.tuple #[zeroE, .bool false]) ∧ Below w.heap.size w w' := by
  have HB : Hid (Below w.heap.size w (w.alloc (.cells #[.int .i64 o, .int .i64 s] 25))) := (Below.refl _ _).alloc (Nat.le_refl _) _
  go_enter Try.func13, Try.ntmps13
  go_wp2_with fail
  refine (closedD_nil _).mono ?_
  rintro e w' ⟨rfl, rfl⟩
  go_wp2
  go_ret2
  exact ⟨rfl, HB.out⟩
theorem has_nil (w : World) (o s : Int) : Calls Try.prog 33 #[.pointer none, .agg #[.int .i64 o, .int .i64 s]] w fun e w' => e = .returned (.bool false) ∧ Below w.heap.size w w' := by
  have HB : Hid (Below w.heap.size w (w.alloc (.cells #[.int .i64 o, .int .i64 s] 25))) := (Below.refl _ _).alloc (Nat.le_refl _) _
  go_enter Try.func33, Try.ntmps33
  go_wp2_with fail
  refine (get_nil _ o s).mono ?_
  rintro e w' ⟨rfl, hb⟩
  have HB2 := hid (bt HB.out hb)
  clear hb
  go_wp2
  go_ret
  exact ⟨rfl, HB2.out⟩
theorem Try.zeroEl (w : World) : (zeroValue 9).run Try.prog w = .ok zeroE w := by kernel_rfl
section
variable {w w' : World} {p m N : Nat} {rs : Nat → Value} {R : Nat → List Value} {D : DataW Value} {S : Int → Int → Option Value}
set_option maxRecDepth 100000 in
theorem get_any (h : DotsPre w p rs R m D S N) (o s : Int) : Calls Try.prog 13 #[.pointer (some ⟨p, 0, none⟩), .agg #[.int .i64 o, .int .i64 s]] w fun e w' => e = .returned (.tuple #[(S o s).getD zeroE, .bool (S o s).isSome]) ∧ Below w.heap.size w w' := by
  have HB : Hid (Below w.heap.size w (w.alloc (.cells #[.int .i64 o, .int .i64 s] 25))) := (Below.refl _ _).alloc (Nat.le_refl _) _
  have HD : Hid (Blk (w.alloc (.cells #[.int .i64 o, .int .i64 s] 25)) w.heap.size 25 [.int .i64 o, .int .i64 s]) := Blk.new w 25 _
  have HH := hid h
  have HH1 := hid (h.below HB.out)
  clear h
  by_cases hm : MayD o s
  · obtain ⟨k, rfl⟩ := Int.eq_ofNat_of_zero_le hm.1.1
    have hk : k < 7 := by have := hm.1.2; omega
    have hk7 : (k : Int) < 7 := hm.1.2
    have hs1 : 1 ≤ s := hm.2.1
    have hs2 : s ≤ 2147483647 := hm.2.2
    have HAT := hid (HH.out.at hm)
    have HMD := hid hm
    clear hm
    go_enter Try.func13, Try.ntmps13
    go_wp2_with fail
    refine (closedD_no _ p m (HH1.out.blk.cell (i := 7) rfl)).mono ?_
    rintro e w1 ⟨rfl, rfl⟩
    have hd0 := HD.out.cell (i := 0) rfl
    have hd1 := HD.out.cell (i := 1) rfl
    go_wp2_with fail
    refine (may_dot _ (k : Int) s).mono ?_
    rintro e w2 ⟨rfl, hb2⟩
    rw [decide_eq_true HMD.out]
    have HB2 := hid (bt HB.out hb2)
    have HH2 := hid (HH1.out.below hb2)
    have HD2 : Hid (Blk w2 w.heap.size 25 [.int .i64 (k : Int), .int .i64 s]) := HD.out.below hb2 HD.out.lt
    clear hb2 hd0 hd1
    have hd0 := HD2.out.cell (i := 0) rfl
    have hd1 := HD2.out.cell (i := 1) rfl
    obtain ⟨ao, c, hrk⟩ := own_slice (HH2.out.run k hk)
    have hck := HH2.out.blk.cell (setCells_run rs m hk)
    rw [hrk] at hck
    have hc7 := HH2.out.blk.cell (i := 7) rfl
    have HRK := hid hrk
    have hlen := HH2.out.len hk
    obtain ⟨L, HL⟩ : ∃ L, Hid ((R k).length = L) := ⟨_, hid rfl⟩
    rw [HL.out] at hck hlen
    clear hrk
    go_wp2
    go_quiet (fail)
    have HH3 : Hid (DotsPre (w2.drewN nq) p rs R m D S N) := HH2.out.below (below_dn (Below.refl _ _) nq)
    have HB3 : Hid (Below w.heap.size w (w2.drewN nq)) := below_dn HB2.out nq
    have hd0 : (w2.drewN nq).cell? ⟨w.heap.size, 0, none⟩ = some (.int .i64 (k : Int)) := HD2.out.cell (i := 0) rfl
    have hd1 : (w2.drewN nq).cell? ⟨w.heap.size, 1, none⟩ = some (.int .i64 s) := HD2.out.cell (i := 1) rfl
    have hck : (w2.drewN nq).cell? ⟨p, k, none⟩ = some (.slice ao L c) := hck
    have hc7 : (w2.drewN nq).cell? ⟨p, 7, none⟩ = some (.map (some m)) := hc7
    clear HH2 HB2 HD2
    generalize w2.drewN nq = w3 at *
    by_cases hs : s ≤ (L : Int)
    · obtain ⟨j, hj⟩ := Int.eq_ofNat_of_zero_le (by omega : 0 ≤ s - 1)
      have hjL : j < L := by omega
      have hjI : (j : Int) < (L : Int) := by omega
      have hs3 : s - 1 = (j : Int) := hj
      obtain ⟨eo, cap, he, hec, hcell⟩ := own_form' (HH3.out.run k hk)
      rw [HRK.out] at he
      cases he
      obtain ⟨g, rfl, _, _, hgc⟩ := hcell (by rw [HL.out]; omega)
      have hx : (R k)[j]? = some ((R k)[j]'(by rw [HL.out]; exact hjL)) := List.getElem?_eq_getElem _
      obtain ⟨X, hX⟩ : ∃ X, (R k)[j]? = some X := ⟨_, hx⟩
      have hcj := hgc j X hX
      have HSX : Hid (S (k : Int) s = some X) := by
        show _ = _
        rw [HAT.out, if_pos (by rw [HL.out]; exact hs), hj]
        simpa using hX
      have hwj : wrap64 (s - 1) = (j : Int) := by rw [hj]; exact wrapS (by omega) (by omega)
      clear hgc hx hX hcell hj
      go_wp2
      go_ret2
      rw [HSX.out]
      exact ⟨rfl, HB3.out⟩
    · have hs' : ¬ s ≤ (L : Int) := hs
      obtain ⟨V, HV⟩ : ∃ V, Hid (look D (dk (k : Int) s) = V) := ⟨_, hid rfl⟩
      have hlk : ∀ q, (Instr.lookup 60 (.map (some m)) (.agg #[.int .i64 (k : Int), .int .i64 s]) true).run Try.prog (w3.drewN q) = .ok (.tuple #[V.getD zeroE, .bool V.isSome]) (w3.drewN q) := fun q => by
        have := run_look_ok (w := w3.drewN q) (HH3.out.map) Try.keyedDot Try.underlying60 (Try.zeroEl _) (key_dot HMD.out.i64.1 HMD.out.i64.2)
        rw [HV.out] at this
        exact this
      have HSX : Hid (S (k : Int) s = V) := by
        show _ = _
        rw [HAT.out, if_neg (by rw [HL.out]; exact hs), HV.out]
      clear hs
      go_wp2
      go_quiet (fail)
      go_wp2
      go_ret2
      rw [HSX.out]
      exact ⟨rfl, below_dn HB3.out _⟩
  · have hS : S o s = none := HH.out.out o s hm
    have HS := hid hS
    have HMD := hid hm
    clear hS hm
    go_enter Try.func13, Try.ntmps13
    go_wp2_with fail
    refine (closedD_no _ p m (HH1.out.blk.cell (i := 7) rfl)).mono ?_
    rintro e w1 ⟨rfl, rfl⟩
    have hd0 := HD.out.cell (i := 0) rfl
    have hd1 := HD.out.cell (i := 1) rfl
    go_wp2_with fail
    refine (may_dot _ o s).mono ?_
    rintro e w2 ⟨rfl, hb2⟩
    rw [decide_eq_false HMD.out]
    have HB2 := hid (bt HB.out hb2)
    clear hb2 hd0 hd1
    go_wp2
    go_ret2
    rw [HS.out]
    exact ⟨rfl, HB2.out⟩
theorem has_dot (h : DotsPre w p rs R m D S N) (o s : Int) : Calls Try.prog 33 #[.pointer (some ⟨p, 0, none⟩), .agg #[.int .i64 o, .int .i64 s]] w fun e w' => e = .returned (.bool (S o s).isSome) ∧ Below w.heap.size w w' := by
  have HB : Hid (Below w.heap.size w (w.alloc (.cells #[.int .i64 o, .int .i64 s] 25))) := (Below.refl _ _).alloc (Nat.le_refl _) _
  have HG := hid (get_any (h.below HB.out) o s)
  clear h
  obtain ⟨V, HV⟩ : ∃ V, Hid (S o s = V) := ⟨_, hid rfl⟩
  rw [HV.out] at HG ⊢
  go_enter Try.func33, Try.ntmps33
  go_wp2_with fail
  refine HG.out.mono ?_
  rintro e w' ⟨rfl, hb⟩
  have HB2 := hid (bt HB.out hb)
  clear hb
  go_wp2
  go_ret
  exact ⟨rfl, HB2.out⟩
end
end Go.Proofs.Ytkjpaiaepodhbaa
