/-
  RouterFiner's walk.
-/
import Derived.Test.YtppllbdoihfcbaaDoorRoF
namespace Go.Proofs.YtppllbdoihfcbaaDoor
open Go.RowKit Go.Maps

theorem shard_finer (s : ByteArray) (a b : Int) (ha : 1 ≤ a) (hb : 1 ≤ b) : shardR s (a * b) % a = shardR s a := by
  unfold shardR
  have h1 : ¬ a * b < 1 := by have := Int.mul_le_mul ha hb (by omega) (by omega); omega
  rw [if_neg h1, if_neg (by omega), Int.emod_emod_of_dvd _ (Int.dvd_mul_right a b)]
theorem shard_one (s : ByteArray) : shardR s 1 = 0 := by
  unfold shardR
  rw [if_neg (by decide), Int.emod_one]
theorem shard_rng (s : ByteArray) (n : Int) : 0 ≤ shardR s n ∧ shardR s n < 4294967296 := by
  unfold shardR
  have h := hashR_rng (strNums s)
  split
  · omega
  · have q1 := Int.emod_nonneg (hashR (strNums s)) (show n ≠ 0 by omega)
    have q2 := Int.emod_lt_of_pos (hashR (strNums s)) (show 0 < n by omega)
    by_cases hl : hashR (strNums s) < n
    · rw [Int.emod_eq_of_lt h.1 hl]
      exact h
    · omega
theorem livesS {w : World} (hT : TbR w) : ∀ V, ScR w V → Calls Tryd.prog 10 #[] V fun e w' => e = .returned (.bool true) ∧ ScR w w' := fun V hV =>
  (livesR V (hT.below hV.out)).mono fun _ _ ⟨he, hb⟩ => ⟨he, hV.go hb⟩
theorem finer_lives (s : ByteArray) (a b : Int) (w : World) (hT : TbR w) (h : ¬ (1 ≤ a ∧ 1 ≤ b ∧ a ≤ 32768 ∧ b ≤ 32768)) : Calls Tryd.prog 8 #[.string s, .int .i64 a, .int .i64 b] w fun e w' => e = .returned (.bool true) ∧ Below w.heap.size w w' := by
  have HL := hid (livesR w hT)
  by_cases h0 : a < 1
  · clear h
    go_enter Tryd.func8, Tryd.ntmps8
    go_wp2_with fail
    refine HL.out.mono ?_
    rintro e w' ⟨rfl, hb⟩
    go_wp2
    go_ret
    exact ⟨rfl, hb⟩
  · by_cases h1 : b < 1
    · clear h
      go_enter Tryd.func8, Tryd.ntmps8
      go_wp2_with fail
      refine HL.out.mono ?_
      rintro e w' ⟨rfl, hb⟩
      go_wp2
      go_ret
      exact ⟨rfl, hb⟩
    · by_cases h2 : 32768 < a
      · clear h
        go_enter Tryd.func8, Tryd.ntmps8
        go_wp2_with fail
        refine HL.out.mono ?_
        rintro e w' ⟨rfl, hb⟩
        go_wp2
        go_ret
        exact ⟨rfl, hb⟩
      · have h3 : 32768 < b := by omega
        clear h
        go_enter Tryd.func8, Tryd.ntmps8
        go_wp2_with fail
        refine HL.out.mono ?_
        rintro e w' ⟨rfl, hb⟩
        go_wp2
        go_ret
        exact ⟨rfl, hb⟩
set_option maxRecDepth 100000 in
set_option maxHeartbeats 1000000 in
theorem finer_all (s : ByteArray) (a b : Int) (w : World) (hT : TbR w) (hs : s.size ≤ maxLen) (h : 1 ≤ a ∧ 1 ≤ b ∧ a ≤ 32768 ∧ b ≤ 32768) : Calls Tryd.prog 8 #[.string s, .int .i64 a, .int .i64 b] w fun e w' => e = .returned (.bool true) ∧ Below w.heap.size w w' := by
  have HL := hid (livesS hT)
  have q1 : 1 ≤ a * b := by have := Int.mul_le_mul h.1 h.2.1 (by omega) (by omega); omega
  have q2 : a * b ≤ 32768 * 32768 := Int.mul_le_mul h.2.2.1 h.2.2.2 (by omega) (by omega)
  have e1 : IntKind.i64.wrap (a * b) = a * b := wrapI (by omega) (by omega)
  have HX : Hid (∀ V, ScR w V → Calls Tryd.prog 9 #[.string s, .int .i64 (a * b)] V fun e w' => e = .returned (.int .i64 (shardR s (a * b))) ∧ ScR w w') := fun V hV =>
    (shard_any s (a * b) V hs (by omega)).mono fun _ _ ⟨he, hw⟩ => ⟨he, by rw [hw]; exact hV⟩
  have HY : Hid (∀ V, ScR w V → Calls Tryd.prog 9 #[.string s, .int .i64 a] V fun e w' => e = .returned (.int .i64 (shardR s a)) ∧ ScR w w') := fun V hV =>
    (shard_any s a V hs (by omega)).mono fun _ _ ⟨he, hw⟩ => ⟨he, by rw [hw]; exact hV⟩
  have HZ : Hid (∀ V, ScR w V → Calls Tryd.prog 9 #[.string s, .int .i64 1] V fun e w' => e = .returned (.int .i64 0) ∧ ScR w w') := fun V hV =>
    (shard_any s 1 V hs (by omega)).mono fun _ _ ⟨he, hw⟩ => ⟨by rw [he, shard_one], by rw [hw]; exact hV⟩
  have hf := shard_finer s a b h.1 h.2.1
  have hr := shard_rng s (a * b)
  obtain ⟨x, hx⟩ : ∃ x, x = shardR s (a * b) := ⟨_, rfl⟩
  obtain ⟨y, hy⟩ : ∃ y, y = shardR s a := ⟨_, rfl⟩
  rw [← hx] at hf hr HX
  rw [← hy] at hf HY
  have e2 : x.tmod a = y := by rw [Int.tmod_eq_emod_of_nonneg hr.1]; exact hf
  have hyr : 0 ≤ y ∧ y < 4294967296 := by rw [hy]; exact shard_rng s a
  have e3 : IntKind.i64.wrap y = y := wrapI (by omega) (by omega)
  have ha0 : ¬ a = 0 := by omega
  have g1 : ¬ a < 1 := by omega
  have g2 : ¬ b < 1 := by omega
  have g3 : ¬ 32768 < a := by omega
  have g4 : ¬ 32768 < b := by omega
  clear h hx hy hf hr hyr q1 q2 hT hs
  go_enter Tryd.func8, Tryd.ntmps8
  go_wp2
  refine wp_region_noPanic ?_
  go_region_held3 (fun V => ScR w V)
    (first | with_reducible assumption | exact ScR.start _ | (repeat (first | with_reducible assumption | exact ScR.start _ | apply ScR.dr)))
    (first
      | (go_at_call 10; with_reducible refine (HL.out _ (by (repeat (first | with_reducible assumption | exact ScR.start _ | apply ScR.dr)))).mono ?_; rintro e w5 ⟨rfl, hs5⟩)
      | (go_at_call 9; with_reducible refine (HX.out _ (by (repeat (first | with_reducible assumption | exact ScR.start _ | apply ScR.dr)))).mono ?_; rintro e w6 ⟨rfl, hs6⟩)
      | (go_at_call 9; with_reducible refine (HY.out _ (by (repeat (first | with_reducible assumption | exact ScR.start _ | apply ScR.dr)))).mono ?_; rintro e w7 ⟨rfl, hs7⟩)
      | (go_at_call 9; with_reducible refine (HZ.out _ (by (repeat (first | with_reducible assumption | exact ScR.start _ | apply ScR.dr)))).mono ?_; rintro e w8 ⟨rfl, hs8⟩))
  have HB := hs8.out
  refine NoPanic.normal ?_
  go_wp2
  go_ret
  exact ⟨rfl, HB⟩
theorem routerFiner_walk (s : ByteArray) (a b : Int) (w : World) (hT : TbR w) (hs : s.size ≤ maxLen) (_ : -9223372036854775808 ≤ a ∧ a ≤ 9223372036854775807) (_ : -9223372036854775808 ≤ b ∧ b ≤ 9223372036854775807) : Calls Tryd.prog 8 #[.string s, .int .i64 a, .int .i64 b] w fun e w' => e = .returned (.bool true) ∧ Below w.heap.size w w' := by
  by_cases h : 1 ≤ a ∧ 1 ≤ b ∧ a ≤ 32768 ∧ b ≤ 32768
  · exact finer_all s a b w hT hs h
  · exact finer_lives s a b w hT h
end Go.Proofs.YtppllbdoihfcbaaDoor
