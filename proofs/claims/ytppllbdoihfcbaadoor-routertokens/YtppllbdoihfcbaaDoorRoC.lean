/-
  Package router: a cart's hash and shard; the document's shard.
-/
import Derived.Test.YtppllbdoihfcbaaDoorRoB
namespace Go.Proofs.YtppllbdoihfcbaaDoor
open Go.RowKit Go.Maps

/-- One byte more of a hash. -/
def stepR (h c : Int) : Int := (bits .xor .u32 h (c % 4294967296) * 16777619) % 4294967296
/-- A cart's hash. -/
def hashR (xs : List Int) : Int := xs.foldl stepR 2166136261
theorem hashR_rng (xs : List Int) : 0 ≤ hashR xs ∧ hashR xs < 4294967296 := by
  unfold hashR
  have : ∀ (l : List Int) (a : Int), 0 ≤ a ∧ a < 4294967296 → 0 ≤ l.foldl stepR a ∧ l.foldl stepR a < 4294967296 := by
    intro l
    induction l with
    | nil => intro a h; exact h
    | cons x l ih => intro a _; exact ih _ (by unfold stepR; omega)
  exact this xs _ (by omega)
theorem hashR_snoc (xs : List Int) (c : Int) : hashR (xs ++ [c]) = stepR (hashR xs) c := by
  unfold hashR
  rw [List.foldl_append]
  rfl
theorem hashR_take {s : ByteArray} {k : Nat} (h : k < s.size) : hashR ((strNums s).take (k + 1)) = stepR (hashR ((strNums s).take k)) ((s[k].toNat : Nat) : Int) := by
  rw [List.take_succ_eq_append_getElem (by rw [strNums_len]; exact h), hashR_snoc]
  congr 1
  have := strNums_at h
  rw [List.getElem?_eq_getElem (by rw [strNums_len]; exact h)] at this
  exact Option.some.inj this
/-- A cart's shard. -/
def shardR (s : ByteArray) (n : Int) : Int := if n < 1 then 0 else hashR (strNums s) % n

theorem hash_any (s : ByteArray) (w : World) (hs : s.size ≤ maxLen) : Calls Tryd.prog 23 #[.string s] w fun e w' => e = .returned (.int .u32 (hashR (strNums s))) ∧ w' = w := by
  unfold maxLen at hs
  go_enter Tryd.func23, Tryd.ntmps23
  go_wp2
  go_loop [3, 7] (fun x i => ∃ k : Nat, k ≤ s.size ∧ i = .int .i64 k ∧ x = .int .u32 (hashR ((strNums s).take k))) (fun _ i => s.size - (intOf i).toNat)
  case atStart => exact ⟨0, by omega, rfl, rfl⟩
  case round =>
    obtain ⟨k, hk, rfl, rfl⟩ := hrel
    by_cases hlt : k < s.size
    · have HF := hid (hashR_take hlt)
      have hr := hashR_rng ((strNums s).take k)
      generalize hashR ((strNums s).take k) = x at HF hr ⊢
      have hk' : (k : Int) < (s.size : Int) := by omega
      go_wp2
      go_round
      case rel => exact ⟨k + 1, by omega, by go_num, by rw [HF.out]; simp only [stepR]⟩
      case measure => simp [intOf]; omega
    · have hk' : ¬ (k : Int) < (s.size : Int) := by omega
      have HF : Hid (hashR ((strNums s).take k) = hashR (strNums s)) := by
        show _ = _
        rw [List.take_of_length_le (by rw [strNums_len]; omega)]
      go_wp2
      go_ret
      exact ⟨ret_int HF.out, rfl⟩
theorem shard_any (s : ByteArray) (n : Int) (w : World) (hs : s.size ≤ maxLen) (hn : -9223372036854775808 ≤ n ∧ n ≤ 9223372036854775807) : Calls Tryd.prog 9 #[.string s, .int .i64 n] w fun e w' => e = .returned (.int .i64 (shardR s n)) ∧ w' = w := by
  unfold shardR
  by_cases h1 : n < 1
  · rw [if_pos h1]
    go_enter Tryd.func9, Tryd.ntmps9
    go_wp2
    go_ret
    exact ⟨rfl, rfl⟩
  · rw [if_neg h1]
    have HH := hid (hash_any s w hs)
    have hr := hashR_rng (strNums s)
    generalize hashR (strNums s) = x at HH hr ⊢
    have h2 : n % 18446744073709551616 = n := by omega
    have h3 : ¬ n = 0 := by omega
    have q1 := Int.emod_nonneg x h3
    have q2 := Int.emod_lt_of_pos x (show 0 < n by omega)
    have h4 : x % 18446744073709551616 = x := by omega
    have h5 : (x % n) % 18446744073709551616 = x % n := by omega
    have h6 : wrap64 (x % n) = x % n := wrapS (by omega) (by omega)
    have h7 : x.tmod n = x % n := Int.tmod_eq_emod_of_nonneg hr.1
    have h8 : IntKind.i64.wrap (x % n) = x % n := wrapI (by omega) (by omega)
    go_enter Tryd.func9, Tryd.ntmps9
    go_wp2_with fail
    refine HH.out.mono ?_
    rintro e w' ⟨rfl, rfl⟩
    go_wp2
    go_ret
    refine ⟨?_, rfl⟩
    simp [*]
theorem rshard_any (s : ByteArray) (n : Int) (w : World) (hs : s.size ≤ maxLen) (hn : -9223372036854775808 ≤ n ∧ n ≤ 9223372036854775807) : Calls Tryd.prog 13 #[.string s, .int .i64 n] w fun e w' => e = .returned (.int .i64 (shardR s n)) ∧ w' = w := by
  unfold shardR
  by_cases h1 : n < 1
  · rw [if_pos h1]
    go_enter Tryd.func13, Tryd.ntmps13
    go_wp2
    go_ret
    exact ⟨rfl, rfl⟩
  · rw [if_neg h1]
    have h3 : ¬ n = 0 := by omega
    unfold maxLen at hs
    clear hn
    go_enter Tryd.func13, Tryd.ntmps13
    go_wp2
    go_loop [5, 6] (fun x i => ∃ k : Nat, k ≤ s.size ∧ i = .int .i64 k ∧ x = .int .u32 (hashR ((strNums s).take k))) (fun _ i => s.size - (intOf i).toNat)
    case atStart => exact ⟨0, by omega, rfl, rfl⟩
    case round =>
      obtain ⟨k, hk, rfl, rfl⟩ := hrel
      by_cases hlt : k < s.size
      · have HF := hid (hashR_take hlt)
        have hr := hashR_rng ((strNums s).take k)
        generalize hashR ((strNums s).take k) = x at HF hr ⊢
        have hk' : (k : Int) < (s.size : Int) := by omega
        go_wp2
        go_round
        case rel => exact ⟨k + 1, by omega, by go_num, by rw [HF.out]; simp only [stepR]⟩
        case measure => simp [intOf]; omega
      · have hk' : ¬ (k : Int) < (s.size : Int) := by omega
        have HF : Hid (hashR ((strNums s).take k) = hashR (strNums s)) := by
          show _ = _
          rw [List.take_of_length_le (by rw [strNums_len]; omega)]
        rw [HF.out]
        have hr := hashR_rng (strNums s)
        obtain ⟨x, HX⟩ : ∃ x, Hid (hashR (strNums s) = x) := ⟨_, hid rfl⟩
        rw [HX.out] at hr ⊢
        have h9 : IntKind.i64.wrap x = x := wrapI (by omega) (by omega)
        go_wp2
        go_ret
        exact ⟨ret_int (by rw [HX.out]), rfl⟩
end Go.Proofs.YtppllbdoihfcbaaDoor
