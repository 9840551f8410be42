/-
  The document's Digits and Token; tokens are unlike, and may be names.
-/
import Derived.Test.YtppllbdoihfcbaaDoorRouterFinerW
import Derived.Laws.IdiomStrings
import Derived.Lib.ItoaMem
namespace Go.Proofs.YtppllbdoihfcbaaDoor
open Go.RowKit Go.Maps

theorem dec_big {u : Nat} (h : ¬ u < 10) : Lib.decDigits u = Lib.decDigits (u / 10) ++ [UInt8.ofNat (48 + u % 10)] := by rw [Lib.decDigits, dif_neg h]
/-- What Digits has found behind some rounds: the number that is left, and the digits of what is behind it. -/
def DigAt (u n : Nat) (l : List UInt8) : Prop := if n = 0 then l = Lib.decDigits u else Lib.decDigits u = Lib.decDigits n ++ l
theorem digAt_first (u : Nat) : DigAt u (u / 10) [UInt8.ofNat (48 + u % 10)] := by
  unfold DigAt
  by_cases h : u < 10
  · rw [if_pos (by omega), Lib.decDigits_one h, show u % 10 = u by omega]
  · rw [if_neg (by omega), dec_big h]
theorem digAt_next {u n : Nat} {l : List UInt8} (h : DigAt u n l) (hn : 0 < n) : DigAt u (n / 10) (UInt8.ofNat (48 + n % 10) :: l) := by
  unfold DigAt at h ⊢
  rw [if_neg (by omega)] at h
  by_cases h1 : n < 10
  · rw [if_pos (by omega), h, Lib.decDigits_one h1, show n % 10 = n by omega]
    rfl
  · rw [if_neg (by omega), h, dec_big h1, List.append_assoc]
    rfl
theorem digAt_len {u n : Nat} {l : List UInt8} (h : DigAt u n l) (hu : u < 9223372036854775808) : l.length ≤ 20 := by
  have h1 := Lib.nDigits_le20 u (by omega)
  have h2 := Lib.decDigits_length u
  unfold DigAt at h
  split at h
  · rw [h]; omega
  · rw [h, List.length_append] at h2
    omega
theorem app1 (d : UInt8) (l : List UInt8) : (⟨#[d]⟩ : ByteArray) ++ ⟨l.toArray⟩ = ⟨(d :: l).toArray⟩ := by
  apply ByteArray.ext
  simp
theorem conv1 (w : World) (n : Nat) : (convert 55 9 (.slice (some ⟨w.heap.size, 0, none⟩) 1 1)).run Tryd.prog (w.alloc (.cells #[.int .u8 (48 + (n : Int) % 10)] 5)) = .ok (.string ⟨#[UInt8.ofNat (48 + n % 10)]⟩) (w.alloc (.cells #[.int .u8 (48 + (n : Int) % 10)] 5)) := by
  have h := run_convert_bytes_back (P := Tryd.prog) (w.alloc (.cells #[.int .u8 (48 + (n : Int) % 10)] 5)) 55 9 5 ⟨w.heap.size, 0, none⟩ 1 [UInt8.ofNat (48 + n % 10)] Tryd.underlying55 Tryd.underlying5 Tryd.underlying9 (fun j hj => by
    obtain rfl : j = 0 := by simpa using hj
    have hb := (Blk.new w 5 [.int .u8 (48 + (n : Int) % 10)]).cell (i := 0) rfl
    have e : ((UInt8.ofNat (48 + n % 10)).toNat : Int) = 48 + (n : Int) % 10 := by
      rw [UInt8.toNat_ofNat']
      omega
    simp only [List.getElem_cons_zero]
    rw [e]
    exact hb)
  exact h
set_option maxRecDepth 100000 in
theorem digits_any (u : Nat) (hu : u < 9223372036854775808) (w : World) : Calls Tryd.prog 26 #[.int .i64 (u : Int)] w fun e w' => e = .returned (.string (digS (u : Int))) ∧ Below w.heap.size w w' := by
  have h1 := conv1 w u
  have HU := hid hu
  have HF1 := hid (digAt_first u)
  obtain ⟨d0, hd0⟩ : ∃ d, UInt8.ofNat (48 + u % 10) = d := ⟨_, rfl⟩
  rw [hd0] at h1 HF1
  clear hd0
  go_enter Tryd.func26, Tryd.ntmps26
  go_wp2
  obtain ⟨W, hW⟩ : ∃ W, W = w.alloc (.cells #[.int .u8 (48 + (u : Int) % 10)] 5) := ⟨_, rfl⟩
  have HB : Hid (Below w.heap.size w W) := by rw [hW]; exact (Below.refl _ _).alloc (Nat.le_refl _) _
  rw [← hW]
  have hu10 : (u : Int) / 10 = ((u / 10 : Nat) : Int) := by omega
  rw [hu10]
  clear h1 hW hu10
  go_loopw [0, 3] (fun x y wr => ∃ (n : Nat) (l : List UInt8), x = .int .i64 n ∧ y = .string ⟨l.toArray⟩ ∧ n ≤ u ∧ Hid (DigAt u n l ∧ Below w.heap.size w wr)) (fun x _ _ => (intOf x).toNat)
  case atStart => exact ⟨u / 10, _, rfl, rfl, by omega, HF1.out, HB.out⟩
  case round =>
    obtain ⟨n, l, rfl, rfl, hnu, HA⟩ := hrel
    by_cases hn : 0 < n
    · have hn' : (0 : Int) < (n : Int) := by omega
      have h1 := conv1 wr n
      have hl := digAt_len HA.out.1 HU.out
      have s1 : ¬ 9223372036854775807 < 1 + l.length := by omega
      have HF : Hid (DigAt u (n / 10) (UInt8.ofNat (48 + n % 10) :: l) ∧ Below w.heap.size w (wr.alloc (.cells #[.int .u8 (48 + (n : Int) % 10)] 5))) := ⟨digAt_next HA.out.1 hn, HA.out.2.alloc HA.out.2.size _⟩
      clear hl
      obtain ⟨d, hd⟩ : ∃ d, UInt8.ofNat (48 + n % 10) = d := ⟨_, rfl⟩
      rw [hd] at h1 HF
      clear hd
      go_wp2
      go_roundw
      case rel => exact ⟨n / 10, _, by congr 1, by rw [app1], by omega, HF.out⟩
      case measure => simp [intOf]; omega
    · obtain rfl : n = 0 := by omega
      have HF : Hid (l = Lib.decDigits u) := by have := HA.out.1; unfold DigAt at this; rw [if_pos rfl] at this; exact this
      go_wp2
      go_ret
      refine ⟨?_, HA.out.2⟩
      unfold digS
      rw [Lib.itoa_nonneg, ← HF.out]
      rfl
set_option maxRecDepth 100000 in
theorem rtoken_any (c k : Nat) (hc : c < 9223372036854775808) (hk : k < 9223372036854775808) (w : World) : Calls Tryd.prog 15 #[.int .i64 (c : Int), .int .i64 (k : Int)] w fun e w' => e = .returned (.string (tokR (c : Int) (k : Int))) ∧ Below w.heap.size w w' := by
  have z1 := digS_size (c : Int) (by omega) (by omega)
  have z2 := digS_size (k : Int) (by omega) (by omega)
  have HD1 := hid (fun W => digits_any c hc W)
  have HD2 := hid (fun W => digits_any k hk W)
  have s1 : ¬ 9223372036854775807 < 1 + (digS (c : Int)).size := by omega
  have s2 : ¬ 9223372036854775807 < 1 + (digS (c : Int)).size + 1 := by omega
  have s3 : ¬ 9223372036854775807 < 1 + (digS (c : Int)).size + 1 + (digS (k : Int)).size := by omega
  clear z1 z2
  unfold tokR
  generalize digS (c : Int) = x at s1 s2 s3 HD1 ⊢
  generalize digS (k : Int) = y at s3 HD2 ⊢
  go_enter Tryd.func15, Tryd.ntmps15
  go_wp2_with fail
  refine (HD1.out _).mono ?_
  rintro e w1 ⟨rfl, hb1⟩
  have HB1 := hid hb1
  clear hb1
  go_wp2_with fail
  refine (HD2.out _).mono ?_
  rintro e w2 ⟨rfl, hb2⟩
  have HB2 := hid (btR HB1.out hb2)
  clear hb2
  go_wp2
  go_ret
  exact ⟨rfl, HB2.out⟩
/-- The last of k tokens. -/
def lastR (c k : Int) : ByteArray := if k = 0 then ⟨#[]⟩ else tokR c (k - 1)
theorem lastR_next (c : Int) {k : Int} (hk : 0 ≤ k) : lastR c (k + 1) = tokR c k := by
  unfold lastR
  rw [if_neg (by omega), show k + 1 - 1 = k by omega]
theorem SR.lastAny {w wr : World} {p : Nat} {c n k t r : Int} (H : SR w wr p c n k t r) : Calls Tryd.prog 19 #[.pointer (some ⟨p, 0, none⟩)] wr fun e w' => e = .returned (.string (lastR c k)) ∧ SR w w' p c n k t r := by
  unfold lastR
  by_cases h : k = 0
  · subst h
    rw [if_pos rfl]
    exact H.se.last0.mono fun _ _ ⟨he, hw⟩ => ⟨he, by rw [hw]; exact H⟩
  · rw [if_neg h]
    exact (H.last (by have := H.se.hk; omega)).mono fun _ _ ⟨he, h1, _⟩ => ⟨he, h1⟩
end Go.Proofs.YtppllbdoihfcbaaDoor
