/-
  frame.readWord and frame.first: the four bytes' number, and the payload of the frame with which bytes begin ('fstOf'), for any bytes; nothing is written.
-/
import Derived.Test.YtmokelmeihmeiabDoorFPut
import Derived.Deep.QuietTactic
import Derived.BigQuiet
import Derived.Deep.RegionWith
import Derived.Deep.RegionHeld3
import Derived.Deep.DrawnRows
namespace Go.Proofs.YtmokelmeihmeiabDoor
open Go.RowKit
attribute [local go_sem ↓] Go.wp_at_zero Go.wp_at_succ

theorem Tab.drawn {w : World} (h : Tab w) (q : Nat) : Tab (w.drewN q) := ⟨h.1, fun i hi => by have := h.2 i hi; simpa using this⟩
theorem Tab.drew {w : World} (h : Tab w) : Tab w.drew := ⟨h.1, fun i hi => by have := h.2 i hi; simpa using this⟩

/-- The number of four bytes. -/
def rd4 (bs : List Int) : Nat := (bs.getD 0 0).toNat * 16777216 + (bs.getD 1 0).toNat * 65536 + (bs.getD 2 0).toNat * 256 + (bs.getD 3 0).toNat
theorem rd4_lt {bs : List Int} (hb : AllB bs) : rd4 bs < 4294967296 := by
  have h0 := hb.getD 0
  have h1 := hb.getD 1
  have h2 := hb.getD 2
  have h3 := hb.getD 3
  simp only [rd4, List.getD]
  omega
theorem rd4_be {x : Nat} (h : x < 4294967296) (r : List Int) : rd4 (be4 x ++ r) = x := by
  simp [rd4, be4]
  omega

theorem or4 {a b c d : Nat} (ha : a < 256) (hb : b < 256) (hc : c < 256) (hd : d < 256) :
    bits .or .u32 (bits .or .u32 (bits .or .u32 ((a : Int) * 16777216) ((b : Int) * 65536)) ((c : Int) * 256)) (d : Int) = ((a * 16777216 + b * 65536 + c * 256 + d : Nat) : Int) := by
  have e1 : ((a : Int) * 16777216) = ((a * 16777216 : Nat) : Int) := by simp
  have e2 : ((b : Int) * 65536) = ((b * 65536 : Nat) : Int) := by simp
  have e3 : ((c : Int) * 256) = ((c * 256 : Nat) : Int) := by simp
  rw [e1, e2, e3, u32_or_nat _ _ (by omega) (by omega), nat_join 24 (a * 16777216) (b * 65536) (by omega) (by omega), u32_or_nat _ _ (by omega) (by omega), nat_join 16 _ (c * 256) (by omega) (by omega), u32_or_nat _ _ (by omega) (by omega), nat_join 8 _ d (by omega) (by omega)]

theorem readWord_full (b off len cap : Nat) (bs : List Int) (w : World) (h4 : 4 ≤ len) (hb : AllB bs) (hmax : len ≤ 9223372036854775807)
    (hc : ∀ j, j < len → w.cell? ⟨b, off + j, none⟩ = some (.int .u8 (bs.getD j 0))) :
    Calls Tryd.prog 26 #[.slice (some ⟨b, off, none⟩) len cap] w fun e w' => e = .returned (.int .u32 (rd4 bs)) ∧ ∃ q, w' = w.drewN q := by
  have hb0 := hb.getD 0
  have hb1 := hb.getD 1
  have hb2 := hb.getD 2
  have hb3 := hb.getD 3
  obtain ⟨c0, h0⟩ : ∃ c : Nat, (c : Int) = bs.getD 0 0 := ⟨(bs.getD 0 0).toNat, by simp only [List.getD]; omega⟩
  obtain ⟨c1, h1⟩ : ∃ c : Nat, (c : Int) = bs.getD 1 0 := ⟨(bs.getD 1 0).toNat, by simp only [List.getD]; omega⟩
  obtain ⟨c2, h2⟩ : ∃ c : Nat, (c : Int) = bs.getD 2 0 := ⟨(bs.getD 2 0).toNat, by simp only [List.getD]; omega⟩
  obtain ⟨c3, h3⟩ : ∃ c : Nat, (c : Int) = bs.getD 3 0 := ⟨(bs.getD 3 0).toNat, by simp only [List.getD]; omega⟩
  have g0 : w.cell? ⟨b, off, none⟩ = some (.int .u8 (c0 : Int)) := by rw [h0]; exact hc 0 (by omega)
  have g1 : w.cell? ⟨b, off + 1, none⟩ = some (.int .u8 (c1 : Int)) := by rw [h1]; exact hc 1 (by omega)
  have g2 : w.cell? ⟨b, off + 2, none⟩ = some (.int .u8 (c2 : Int)) := by rw [h2]; exact hc 2 (by omega)
  have g3 : w.cell? ⟨b, off + 3, none⟩ = some (.int .u8 (c3 : Int)) := by rw [h3]; exact hc 3 (by omega)
  have l0 : c0 < 256 := by simp only [List.getD] at h0; omega
  have l1 : c1 < 256 := by simp only [List.getD] at h1; omega
  have l2 : c2 < 256 := by simp only [List.getD] at h2; omega
  have l3 : c3 < 256 := by simp only [List.getD] at h3; omega
  have HR : Hid (rd4 bs = c0 * 16777216 + c1 * 65536 + c2 * 256 + c3) := by
    show _ = _
    unfold rd4
    rw [← h0, ← h1, ← h2, ← h3]
    simp
  have k0 : (0 : Int) < (len : Int) := by omega
  have k1 : (1 : Int) < (len : Int) := by omega
  have k2 : (2 : Int) < (len : Int) := by omega
  have k3 : (3 : Int) < (len : Int) := by omega
  have m0 : IntKind.u32.wrap ((c0 : Int) * 16777216) = (c0 : Int) * 16777216 := by rw [IntKind.wrap_u32]; omega
  have m1 : IntKind.u32.wrap ((c1 : Int) * 65536) = (c1 : Int) * 65536 := by rw [IntKind.wrap_u32]; omega
  have m2 : IntKind.u32.wrap ((c2 : Int) * 256) = (c2 : Int) * 256 := by rw [IntKind.wrap_u32]; omega
  have HO := hid (or4 l0 l1 l2 l3)
  clear hc hb hb0 hb1 hb2 hb3 h0 h1 h2 h3
  go_enter Tryd.func26, Tryd.ntmps26
  go_wp2
  go_quiet (fail)
  go_wp2
  go_ret
  exact ⟨ret_int (by rw [HR.out]; exact HO.out), _, rfl⟩

theorem readWord_any (ao : Option Addr) (len cap : Nat) (bs : List Int) (w : World) (h : Held w ao len cap bs) (h4 : 4 ≤ len) :
    Calls Tryd.prog 26 #[.slice ao len cap] w fun e w' => e = .returned (.int .u32 (rd4 bs)) ∧ ∃ q, w' = w.drewN q := by
  obtain ⟨b, off, rfl, _, hc⟩ := h.at (by omega)
  exact readWord_full b off len cap bs w h4 h.byte (by have := h.hmax; have := h.hcap; unfold maxLen at *; omega) hc

theorem run_cut_lhk {P : Program} (W : World) (t e : TypeId) (ht : P.underlying t = some (.slice e)) (hz : ∀ w, (Go.sizeOf e).run P w = .ok 1 w) (kl kh : IntKind) (ao : Option Addr) (len cap l h : Nat) (L U : Int) (hL : L = (l : Int)) (hU : U = (h : Int)) (hl : l ≤ h) (hh : h ≤ cap) :
    (Instr.slice t (.slice ao len cap) (some (.int kl L)) (some (.int kh U)) none).run P W = .ok (.slice (cutAt ao cap l) (h - l) (cap - l)) W := by
  subst hL hU
  have ht' : P.underlying t = some (.slice (P.elem t)) := by simp [Program.elem, ht]
  have he : P.elem t = e := by simp [Program.elem, ht]
  rw [run_slice_lh W t _ _ _ ht' kl kh _ _ (by omega) (by omega) (by omega), he, hz]
  simp [Result.andThen, sliced, cutAt]

/-- The payload of the frame with which bytes begin. -/
def fstOf (bs : List Int) : Option (List Int) :=
  if bs.length < 8 ∨ 65536 < rd4 bs ∨ bs.length < 8 + rd4 bs then none
  else if rd4 (bs.drop 4) = crc (bs.take 4 ++ (bs.take (8 + rd4 bs)).drop 8) then some ((bs.take (8 + rd4 bs)).drop 8) else none

theorem strNums_of {l : List Int} (h : AllB l) : strNums (strOfNums l) = l := by
  unfold strNums
  rw [strOfNums_data, List.map_map]
  conv => rhs; rw [← List.map_id l]
  apply List.map_congr_left
  intro c hc
  have := h c hc
  have h2 : c.toNat < 256 := by omega
  simp [Nat.mod_eq_of_lt h2]
  omega

theorem first_short (ao : Option Addr) (len cap : Nat) (w : World) (h : len < 8) :
    Calls Tryd.prog 25 #[.slice ao len cap] w fun e w' => e = .returned (.tuple #[.string ByteArray.empty, .bool false]) ∧ ∃ q, w' = w.drewN q := by
  have h' : (len : Int) < 8 := by omega
  go_enter Tryd.func25, Tryd.ntmps25
  go_wp2
  go_ret2
  exact ⟨rfl, 0, rfl⟩

theorem first_size (ao : Option Addr) (len cap : Nat) (bs : List Int) (w : World) (h : Held w ao len cap bs) (h8 : 8 ≤ len) (hn : 65536 < rd4 bs ∨ len < 8 + rd4 bs) :
    Calls Tryd.prog 25 #[.slice ao len cap] w fun e w' => e = .returned (.tuple #[.string ByteArray.empty, .bool false]) ∧ ∃ q, w' = w.drewN q := by
  have h' : ¬ (len : Int) < 8 := by omega
  have hl := rd4_lt h.byte
  have hmax : len ≤ 9223372036854775807 := by have := h.hmax; have := h.hcap; unfold maxLen at *; omega
  have HR := hid (readWord_any ao len cap bs w h (by omega))
  obtain ⟨n, HN⟩ : ∃ n, Hid (rd4 bs = n) := ⟨_, hid rfl⟩
  rw [HN.out] at HR hl hn
  clear h
  by_cases hb : 65536 < n
  · have hb' : (65536 : Int) < (n : Int) := by omega
    go_enter Tryd.func25, Tryd.ntmps25
    go_wp2_with fail
    refine HR.out.mono ?_
    rintro e w1 ⟨rfl, q, rfl⟩
    go_wp2
    go_ret2
    exact ⟨rfl, _, rfl⟩
  · have hb' : ¬ (65536 : Int) < (n : Int) := by omega
    have hb2 : (len : Int) - 8 < (n : Int) := by omega
    clear hn
    go_enter Tryd.func25, Tryd.ntmps25
    go_wp2_with fail
    refine HR.out.mono ?_
    rintro e w1 ⟨rfl, q, rfl⟩
    go_wp2
    go_ret2
    exact ⟨rfl, _, rfl⟩

set_option maxRecDepth 100000 in
set_option maxHeartbeats 1000000 in
theorem first_sum (ao : Option Addr) (len cap : Nat) (bs : List Int) (w : World) (ht : Tab w) (h : Held w ao len cap bs) (h8 : 8 ≤ len) (hn : rd4 bs ≤ 65536) (hn2 : 8 + rd4 bs ≤ len) (b : Bool)
    (hb : (rd4 (bs.drop 4) = crc (bs.take 4 ++ (bs.take (8 + rd4 bs)).drop 8)) ↔ b = true) :
    Calls Tryd.prog 25 #[.slice ao len cap] w fun e w' => e = .returned (.tuple #[.string (if b = true then strOfNums ((bs.take (8 + rd4 bs)).drop 8) else ByteArray.empty), .bool b]) ∧ ∃ q, w' = w.drewN q := by
  have h' : ¬ (len : Int) < 8 := by omega
  have hmax : cap ≤ 9223372036854775807 := by have := h.hmax; unfold maxLen at *; omega
  have hcap := h.hcap
  have HR := hid (readWord_any ao len cap bs w h (by omega))
  have HH := hid h
  have HT := hid ht
  obtain ⟨n, HN⟩ : ∃ n, Hid (rd4 bs = n) := ⟨_, hid rfl⟩
  rw [HN.out] at HR hn hn2 hb ⊢
  have hb1 : ¬ (65536 : Int) < (n : Int) := by omega
  have hb2 : ¬ (len : Int) - 8 < (n : Int) := by omega
  have hcut := h.cut (l := 8) (u := 8 + n) (by omega) (by omega)
  rw [Nat.add_sub_cancel_left] at hcut
  obtain ⟨S, HS⟩ : ∃ S, Hid (strOfNums ((bs.take (8 + n)).drop 8) = S) := ⟨_, hid rfl⟩
  have HSN : Hid (strNums S = (bs.take (8 + n)).drop 8) := by show _ = _; rw [← HS.out, strNums_of ((h.byte.take _).drop _)]
  have hSs : S.size ≤ 65536 := by
    have h1 := strNums_len S
    rw [HSN.out, List.length_drop, List.length_take] at h1
    omega
  have HC := hid hcut
  have hs8 : ∀ W, (Instr.slice 22 (.slice ao len cap) (some (.int .i64 8)) (some (.int .u64 (8 + (n : Int)))) none).run Tryd.prog W = .ok (.slice (cutAt ao cap 8) n (cap - 8)) W := by
    intro W
    have := run_cut_lhk (P := Tryd.prog) W 22 5 Tryd.underlying22 Tryd.size5 .i64 .u64 ao len cap 8 (8 + n) 8 (8 + (n : Int)) rfl (by omega) (by omega) (by omega)
    rwa [Nat.add_sub_cancel_left] at this
  have hs4 := fun W => run_cut_l (P := Tryd.prog) W 22 5 Tryd.underlying22 Tryd.size5 ao len cap 4 4 rfl (by omega)
  have hs0 := fun W => run_cut_h (P := Tryd.prog) W 22 5 Tryd.underlying22 Tryd.size5 ao len cap 4 4 rfl (by omega)
  obtain ⟨A, HA⟩ : ∃ A, Hid (rd4 (bs.drop 4) = A) := ⟨_, hid rfl⟩
  obtain ⟨C, HCR⟩ : ∃ C, Hid (crc (bs.take 4 ++ strNums S) = C) := ⟨_, hid rfl⟩
  have hne : ((A : Int) != (C : Int)) = !b := by
    rw [← HSN.out, HA.out, HCR.out] at hb
    cases b with
    | true =>
      have := hb.2 rfl
      simp [this]
    | false =>
      have : A ≠ C := fun e => by have := hb.1 e; cases this
      simp
      omega
  rw [HS.out]
  clear h ht hcut hb
  go_enter Tryd.func25, Tryd.ntmps25
  go_wp2_with fail
  refine HR.out.mono ?_
  rintro e w1 ⟨rfl, q, rfl⟩
  have hcv := run_convert_held (P := Tryd.prog) (HC.out.drawn q) 22 5 9 Tryd.underlying22 Tryd.underlying5 Tryd.underlying9
  rw [HS.out] at hcv
  go_wp2
  have HC4 : Hid (Held (w.drewN q) (cutAt ao cap 4) (len - 4) (cap - 4) (bs.drop 4)) := (HH.out.cutl (by omega)).drawn q
  have HC0 : Hid (Held (w.drewN q) ao 4 cap (bs.take 4)) := (HH.out.take (by omega)).drawn q
  have HTq : Hid (Tab (w.drewN q)) := HT.out.drawn q
  obtain ⟨W, HW⟩ : ∃ W, Hid (w.drewN q = W) := ⟨_, hid rfl⟩
  rw [HW.out] at HC4 HC0 HTq ⊢
  have H1 : ∀ m, Hid (Calls Tryd.prog 26 #[.slice (cutAt ao cap 4) (len - 4) (cap - 4)] (W.drewN m) fun e w' => e = .returned (.int .u32 A) ∧ ∃ q, w' = (W.drewN m).drewN q) := by
    intro m
    have := readWord_any _ _ _ _ _ (HC4.out.drawn m) (by omega)
    rw [HA.out] at this
    exact this
  have H2 : ∀ m, Hid (Calls Tryd.prog 16 #[.slice ao 4 cap, .string S] (W.drewN m) fun e w' => e = .returned (.int .u32 C) ∧ w' = W.drewN m) := by
    intro m
    have := frameSum_any _ _ _ _ S _ (HTq.out.drawn m) (HC0.out.drawn m) (by omega)
    rw [HCR.out] at this
    exact this
  go_quiet (first | (go_at_call 26; exact Calls.quiet_of (H1 _).out) | (go_at_call 16; exact Calls.quiet_of_same (H2 _).out))
  cases b with
  | true =>
    go_wp2
    go_ret2
    exact ⟨rfl, q + nq, by rw [← HW.out, drewN_add]⟩
  | false =>
    go_wp2
    go_ret2
    exact ⟨rfl, q + nq, by rw [← HW.out, drewN_add]⟩
end Go.Proofs.YtmokelmeihmeiabDoor
