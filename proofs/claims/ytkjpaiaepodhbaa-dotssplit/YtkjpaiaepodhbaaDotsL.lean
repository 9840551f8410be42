/-
  pannierlaw09.lives answers true.
-/
import Derived.Test.YtkjpaiaepodhbaaDotsK
namespace Go.Proofs.Ytkjpaiaepodhbaa
open Go.RowKit Go.Maps

def bsA : ByteArray := { data := #[97] }
def bsC : ByteArray := { data := #[99] }
def bsX : ByteArray := { data := #[120] }
def S1 : Int → Int → Option Value := updS (fun _ _ => none) 0 1 (.string bsA)
def S2 : Int → Int → Option Value := updS S1 0 3 (.string bsC)
theorem lives_lens {w : World} {p m N : Nat} {rs : Nat → Value} {R : Nat → List Value} {D : DataW Value} (h : DotsAt w p rs R m D S2 N) : plainOf (lensOf R) = [1] := by
  have h0 : (R 0).length = 1 := h.len_eq (by decide) 1 (fun i hi => by have : i = 0 := by omega
                                                                       subst this
                                                                       rfl) rfl
  have hk : ∀ k : Nat, k < 7 → k ≠ 0 → (R k).length = 0 := fun k hk hne => h.len_eq hk 0 (fun i hi => by omega) (by
    simp [S2, S1, updS, hne])
  unfold lensOf
  rw [h0, hk 1 (by decide) (by decide), hk 2 (by decide) (by decide), hk 3 (by decide) (by decide), hk 4 (by decide) (by decide), hk 5 (by decide) (by decide), hk 6 (by decide) (by decide)]
  rfl
theorem lives_keys {w : World} {p m N : Nat} {rs : Nat → Value} {R : Nat → List Value} {D : DataW Value} (h : DotsAt w p rs R m D S2 N) {ss : List (Int × Int)} (hs : SortedK D ss) : ss.length = 1 := by
  have h0 : (R 0).length = 1 := h.len_eq (by decide) 1 (fun i hi => by have : i = 0 := by omega
                                                                       subst this
                                                                       rfl) rfl
  have hmem : ∀ o s, (o, s) ∈ ss ↔ (o, s) = (0, 3) := fun o s => by
    rw [hs.1.2 o s]
    constructor
    · rintro ⟨h1, h2, h3⟩
      rw [h.pre.keys o s h1 h2] at h3
      split at h3
      · next hc =>
        by_cases e : o = 0 ∧ s = 3
        · rw [e.1, e.2]
        · by_cases e2 : o = 0 ∧ s = 1
          · obtain ⟨rfl, rfl⟩ := e2
            have := hc.2
            rw [Int.toNat_zero, h0] at this
            omega
          · simp [S2, S1, updS, e, e2] at h3
      · cases h3
    · intro e
      cases e
      have hi : I64 0 ∧ I64 3 := by unfold I64; omega
      refine ⟨hi.1, hi.2, ?_⟩
      rw [h.pre.keys 0 3 hi.1 hi.2, if_pos ⟨by unfold MayD; omega, by rw [Int.toNat_zero, h0]; omega⟩]
      rfl
  match ss, hs.1.1, hmem with
  | [], _, hm => exact absurd ((hm 0 3).2 rfl) (by simp)
  | [_], _, _ => rfl
  | a :: b :: r, hn, hm =>
    have ha := (hm a.1 a.2).1 (by simp)
    have hb := (hm b.1 b.2).1 (by simp)
    have : a = b := ha.trans hb.symm
    subst this
    simp at hn
theorem i64s : I64 0 ∧ I64 1 ∧ I64 3 := by unfold I64; omega
theorem eqlS (W : World) : (binOp .eql 9 (.string { data := #[99] }) (.string { data := #[99] })).run Try.prog W = .ok (.bool true) W := by kernel_rfl
set_option maxRecDepth 1000000 in
set_option maxHeartbeats 1000000 in
theorem livesD_any (w : World) : Calls Try.prog 9 #[] w fun e w' => e = .returned (.bool true) ∧ Below w.heap.size w w' := by
  go_enter Try.func9, Try.ntmps9
  go_wp2_with fail
  refine (new_any w).mono ?_
  rintro e w1 ⟨rfl, hd, hb⟩
  have HD1 := hid hd
  have HB1 := hid hb
  have HF1 : Hid (∀ i, FootD (w.heap.size + 1) w.heap.size (fun _ => .slice none 0 0) i → w.heap.size ≤ i) := fun i hi => by
    rcases hi with rfl | rfl | ⟨k, _, hk⟩
    · omega
    · omega
    · simp [Value.ownBlock] at hk
  clear hd hb
  obtain ⟨p, HP⟩ : ∃ p, Hid (p = w.heap.size + 1) := ⟨_, hid rfl⟩
  rw [← HP.out] at HD1 HF1 ⊢
  obtain ⟨m, HM⟩ : ∃ p, Hid (p = w.heap.size) := ⟨_, hid rfl⟩
  rw [← HM.out] at HD1
  have HF1' : Hid (∀ i, FootD p m (fun _ => .slice none 0 0) i → w.heap.size ≤ i) := by rw [HM.out]; exact HF1.out
  clear HF1
  go_wp2_with fail
  refine (all_any w1 _).mono ?_
  rintro e w2 ⟨rfl, _, _, hb⟩
  have HD2 := hid (HD1.out.below hb)
  have HB2 := hid (bt HB1.out hb)
  have hq := fun W => itD_eql w1.heap.size (w1.heap.size + 1) W
  clear hb HD1 HB1
  go_wp2_with fail
  refine (upto_any w2 _ none 0 [] 0 rfl (hv_nil _)).mono ?_
  rintro e w3 ⟨q3, _, _, _, rfl, _, _, _, _, _, hb⟩
  have HD3 := hid (HD2.out.below hb)
  have HB3 := hid (bt HB2.out hb)
  clear hq
  have hq := fun W => itD_eql q3 (q3 + 1) W
  clear hb HD2 HB2
  go_wp2_with fail
  clear hq
  refine (add_any HD3.out 0 1 bsA).mono ?_
  rintro e w4 ⟨he, hr⟩
  have hc : addCode (fun _ _ => none) 0 0 1 = 0 := by decide
  rw [hc] at he
  subst he
  rcases hr with ⟨hno, _⟩ | ⟨_, hcl⟩
  · exact absurd hc hno
  obtain ⟨rs4, R4, D4, hd4, hb4, hf4⟩ := hcl.below HF1'.out HB3.out.size
  have HD4 : Hid (DotsAt w4 p rs4 R4 m D4 S1 1) := hd4
  have HB4 := hid (HB3.out.trans hb4)
  have HF4 := hid hf4
  clear hcl hd4 hb4 hf4 hc HD3 HB3 HF1'
  go_wp2_with fail
  refine (add_any HD4.out 0 3 bsC).mono ?_
  rintro e w5 ⟨he, hr⟩
  have hc : addCode S1 1 0 3 = 0 := by decide
  rw [hc] at he
  subst he
  rcases hr with ⟨hno, _⟩ | ⟨_, hcl⟩
  · exact absurd hc hno
  obtain ⟨rs5, R5, D5, hd5, hb5, hf5⟩ := hcl.below HF4.out HB4.out.size
  have HD5 : Hid (DotsAt w5 p rs5 R5 m D5 S2 2) := hd5
  have HB5 := hid (HB4.out.trans hb5)
  clear hcl hd5 hb5 hf5 hc HD4 HB4 HF4
  go_wp2_with fail
  refine (add_any HD5.out 0 1 bsX).mono ?_
  rintro e w6 ⟨he, hr⟩
  have hc : addCode S2 2 0 1 = 5 := by decide
  rw [hc] at he hr
  subst he
  rcases hr with ⟨_, hd6, hb6⟩ | ⟨hno, _⟩
  rotate_left 1
  · cases hno
  have HD6 := hid hd6
  have HB6 := hid (bt HB5.out hb6)
  clear hd6 hb6 hc HD5 HB5
  go_wp2_with fail
  refine (get_any HD6.out.pre 0 3).mono ?_
  rintro e w7 ⟨he, hb7⟩
  have hg : e = .returned (.tuple #[.string { data := #[99] }, .bool true]) := he
  subst hg
  have HD7 := hid (HD6.out.below hb7)
  have HB7 := hid (bt HB6.out hb7)
  clear he hb7 HD6 HB6
  go_wp2_with fail
  refine (vector_any HD7.out.pre).mono ?_
  rintro e w8 ⟨vo, vc, rfl, hv8, hb8⟩
  have HLE := hid (lives_lens HD7.out)
  rw [HLE.out] at hv8 ⊢
  have HV8 := hid hv8
  have HD8 := hid (HD7.out.below hb8)
  have HB8 := hid (bt HB7.out hb8)
  clear hv8 hb8 HD7 HB7
  go_wp2_with fail
  refine (extras_any HD8.out.pre).mono ?_
  rintro e w9 ⟨u, ss, rfl, hso, _, hrow, hb9⟩
  have hss := lives_keys HD8.out hso
  rw [hss] at hrow
  obtain ⟨eo, ec, rfl⟩ := own_slice hrow
  have HD9 := hid (HD8.out.below hb9)
  have HB9 := hid (bt HB8.out hb9)
  have HV9 := hid (HV8.out.below hb9)
  obtain ⟨vb, voff, rfl, hvc⟩ := HV9.out.held.cellAt (k := 0) (by decide)
  have hcv : w9.cell? ⟨vb, voff + 0, none⟩ = some (.int .i64 1) := hvc 0 (by decide)
  rw [Nat.add_zero] at hcv
  clear hso hrow hb9 hss hvc HD8 HB8 HV8
  have hes := eqlS
  go_wp2_with fail
  refine (lenD_any HD9.out.pre).mono ?_
  rintro e w9' ⟨rfl, rfl⟩
  go_wp2
  go_ret
  exact ⟨rfl, HB9.out⟩
end Go.Proofs.Ytkjpaiaepodhbaa
