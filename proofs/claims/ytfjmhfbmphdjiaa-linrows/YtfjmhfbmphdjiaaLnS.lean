/-
  pannierref25.number: the number of a token's order.
-/
import Derived.Test.YtfjmhfbmphdjiaaLnR
import Derived.Test.YtfjmhfbmphdjiaaLnP
namespace Go.Proofs.Ytfjmhfbmphdjiaa
open Go.RowKit Go.Maps

theorem num_append {t : ByteArray} : ∀ (us bs : List ByteArray), (∀ u ∈ us, u ≠ t) → numL (us ++ bs) t = if numL bs t = 0 then 0 else us.length + numL bs t
  | [], bs, _ => by
    simp only [List.nil_append, List.length_nil]
    split <;> omega
  | a :: r, bs, h => by
    have h1 := num_append r bs (fun u hu => h u (List.mem_cons_of_mem _ hu))
    have h2 : ¬ a = t := h a List.mem_cons_self
    rw [List.cons_append, numL, if_neg h2, h1, List.length_cons]
    split
    · rw [if_pos rfl]
    · rw [if_neg (by omega)]
      omega
theorem num_hit {ts : List ByteArray} {t : ByteArray} {k : Nat} (hk : k < ts.length) (h : ∀ u ∈ ts.take k, u ≠ t) (he : ts.getD k ByteArray.empty = t) : numL ts t = k + 1 := by
  have h1 : ts = ts.take k ++ ts.drop k := (List.take_append_drop k ts).symm
  have h2 : ts.drop k = t :: ts.drop (k + 1) := by
    rw [List.drop_eq_getElem_cons hk]
    have : ts[k] = t := by rw [← he]; simp [List.getD, List.getElem?_eq_getElem hk]
    rw [this]
  rw [h1, num_append _ _ h, h2, numL, if_pos rfl, List.length_take]
  rw [if_neg (by omega)]
  omega
theorem num_miss {ts : List ByteArray} {t : ByteArray} (h : ∀ u ∈ ts, u ≠ t) : numL ts t = 0 := by
  have := num_append ts [] h
  rw [List.append_nil] at this
  rw [this]
  rfl
set_option maxRecDepth 100000 in
theorem number_any (w : World) (t : ByteArray) (ao : Option Addr) (cap : Nat) (ts : List ByteArray) (n : Nat) (hn : ts.length = n) (h : HeldStr w ao ts) (hl : n ≤ 8796093022208) :
    Calls Try.prog 19 #[.string t, .slice ao n cap] w fun e w' => e = .returned (.int .i64 (numL ts t : Int)) ∧ w' = w := by
  have H := hid h
  have HN := hid hn
  clear h hn
  obtain ⟨Z, HZ⟩ : ∃ z, Hid (numL ts t = z) := ⟨_, hid rfl⟩
  rw [HZ.out]
  go_enter Try.func19, Try.ntmps19
  go_wp2
  go_loop [5] (fun i => ∃ k : Nat, k ≤ n ∧ i = .int .i64 k ∧ Hid (∀ u ∈ ts.take k, u ≠ t)) (fun i => n - (intOf i).toNat)
  case atStart => exact ⟨0, Nat.zero_le _, rfl, fun u hu => (by simp at hu)⟩
  case round =>
    obtain ⟨k, hk, rfl, HR⟩ := hrel
    by_cases hlt : k < n
    · have hlt' : (k : Int) < (n : Int) := by omega
      have HKX : Hid (k < ts.length) := by rw [HN.out]; exact hlt
      obtain ⟨b, off, hao, _, g0⟩ := H.out.at HKX.out
      have HKM : Hid (k + 1 ≤ n) := (by omega : k + 1 ≤ n)
      have HTK : Hid (∀ u ∈ ts.take (k + 1), u ∈ ts.take k ∨ u = ts.getD k ByteArray.empty) := fun u hu => by
        rw [List.take_succ_eq_append_getElem HKX.out] at hu
        rcases List.mem_append.1 hu with h | h
        · exact .inl h
        · rw [List.mem_singleton.1 h]
          right
          simp [List.getD, List.getElem?_eq_getElem HKX.out]
      have HHIT : Hid (ts.getD k ByteArray.empty = t → Z = k + 1) := fun he => HZ.out.symm.trans (num_hit HKX.out HR.out he)
      obtain ⟨T, HT⟩ : ∃ T, Hid (ts.getD k ByteArray.empty = T) := ⟨_, hid rfl⟩
      rw [HT.out] at g0 HTK HHIT
      subst hao
      by_cases he : T = t
      · have HE : Hid (Z = k + 1) := HHIT.out he
        subst he
        go_wp2
        go_ret
        exact ⟨by rw [HE.out]; first | rfl | simp, rfl⟩
      · have hb1 : ¬ T.toList = t.toList := fun hh => he (bytes_injS hh)
        have hb2 : (T.toList == t.toList) = false := beq_eq_false_iff_ne.2 hb1
        have HNE := hid he
        clear he
        go_wp2
        go_round
        case rel => exact ⟨k + 1, HKM.out, by go_num, fun u hu => by
          rcases HTK.out u hu with h | h
          · exact HR.out u h
          · rw [h]; exact HNE.out⟩
        case measure => first | exact meas1S HKM.out | (simp [intOf]; have := HKM.out; omega)
    · have hlt' : ¬ (k : Int) < (n : Int) := by omega
      have HE : Hid (Z = 0) := by
        rw [← HZ.out]
        have := HR.out
        rw [List.take_of_length_le (by have := HN.out; omega)] at this
        exact num_miss this
      go_wp2
      go_ret
      exact ⟨by rw [HE.out]; rfl, rfl⟩
end Go.Proofs.Ytfjmhfbmphdjiaa
