/-
  The writers of lists: codec.appendList, slices.Clone and codec.List over strings write how many items there are, and each as a text; conditions: all lengths together stay small.
-/
import Derived.Test.YtmokelmeihmeiaaTextsW
import Derived.Lib.LazyBuf
namespace Go.Proofs.Ytmokelmeihmeiaa
open Go.RowKit
attribute [local go_sem ↓] Go.wp_at_zero Go.wp_at_succ

/-- A slice of strings, at whatever address, holds 'ls'. -/
structure HeldS (w : World) (ao : Option Addr) (len cap : Nat) (ls : List ByteArray) : Prop where
  hlen : ls.length = len
  hcap : len ≤ cap
  hmax : cap ≤ maxLen
  cell : ∀ ad, ao = some ad → ∀ j, j < len → w.cell? (ad.add j) = some (.string (ls.getD j ByteArray.empty))
  hsome : 0 < len → ∃ ad, ao = some ad

theorem HeldS.at {w : World} {ao : Option Addr} {len cap : Nat} {ls : List ByteArray} (h : HeldS w ao len cap ls) (hp : 0 < len) :
    ∃ b off, ao = some ⟨b, off, none⟩ ∧ b < w.heap.size ∧ ∀ j, j < len → w.cell? ⟨b, off + j, none⟩ = some (.string (ls.getD j ByteArray.empty)) := by
  obtain ⟨ad, rfl⟩ := h.hsome hp
  obtain ⟨b, off, spot⟩ := ad
  have hc := h.cell _ rfl 0 hp
  have hspot : spot = none := by simpa [Addr.add] using World.cell?_spot hc
  subst hspot
  have hlt := World.block_lt_of_cell? w _ hc
  refine ⟨b, off, rfl, by simpa [Addr.add] using hlt, fun j hj => ?_⟩
  have := h.cell _ rfl j hj
  rwa [Addr.add_lit] at this

theorem HeldS.below {w w' : World} {ao : Option Addr} {len cap : Nat} {ls : List ByteArray} {B : Nat} (h : HeldS w ao len cap ls) (hb : Below B w w') (hB : w.heap.size ≤ B) : HeldS w' ao len cap ls := by
  refine ⟨h.hlen, h.hcap, h.hmax, fun ad ha j hj => ?_, h.hsome⟩
  have hlt : (ad.add j).block < w.heap.size := World.block_lt_of_cell? w _ (h.cell ad ha j hj)
  rw [hb.cell (p := ad.add j) (by omega)]
  exact h.cell ad ha j hj

/-- All items' bytes. -/
def encAll : List ByteArray → List Int
  | [] => []
  | s :: r => encText s ++ encAll r
theorem encAll_append : ∀ a b : List ByteArray, encAll (a ++ b) = encAll a ++ encAll b
  | [], _ => rfl
  | s :: r, b => by
    show encText s ++ encAll (r ++ b) = (encText s ++ encAll r) ++ encAll b
    rw [encAll_append r b, List.append_assoc]
theorem encAll_byte : ∀ l : List ByteArray, AllB (encAll l)
  | [] => fun c hc => (by cases hc)
  | s :: r => (encText_byte s).append (encAll_byte r)
theorem encAll_snoc {ls : List ByteArray} {k : Nat} (h : k < ls.length) : encAll (ls.take (k + 1)) = encAll (ls.take k) ++ encText (ls.getD k ByteArray.empty) := by
  rw [List.take_succ_eq_append_getElem h, encAll_append]
  simp [encAll, List.getD, List.getElem?_eq_getElem h]
theorem encAll_take_le (ls : List ByteArray) (k : Nat) : (encAll (ls.take k)).length ≤ (encAll ls).length := by
  conv => rhs; rw [← List.take_append_drop k ls, encAll_append, List.length_append]
  omega
theorem encAll_item {ls : List ByteArray} {k : Nat} (h : k < ls.length) : (encAll (ls.take k)).length + (encText (ls.getD k ByteArray.empty)).length ≤ (encAll ls).length := by
  have := encAll_take_le ls (k + 1)
  rw [encAll_snoc h, List.length_append] at this
  exact this
theorem encText_size (s : ByteArray) : s.size ≤ (encText s).length := by rw [encText_len]; omega

theorem closure1_any (ao : Option Addr) (len cap : Nat) (bs : List Int) (s : ByteArray) (w : World) (h : Held w ao len cap bs) (hm : len + s.size ≤ 140737488355000) :
    Calls Try.prog 20 #[.slice ao len cap, .string s] w fun e w' => ∃ bo cp, e = .returned (.slice bo (len + (encText s).length) cp) ∧ Held w' bo (len + (encText s).length) cp (bs ++ encText s) ∧ Below w.heap.size w w' := by
  have HH := hid h
  clear h
  go_enter Try.func20, Try.ntmps20
  go_wp2_with fail
  refine (codecText_held ao len cap bs s w HH.out hm).mono ?_
  rintro e w' ⟨bo, cp, rfl, hh, _, hb⟩
  have HH2 := hid hh
  have HB := hid hb
  clear hh hb
  go_wp2
  go_ret
  exact ⟨bo, cp, rfl, HH2.out, HB.out⟩

theorem appendUint_held (ao : Option Addr) (n cap : Nat) (bs : List Int) (x : Nat) (B : Nat) (w : World) (hx : x < 18446744073709551616) (hown : w.ownsRow B 5 1 (.slice ao n cap) n (nums bs)) (hbs : AllB bs) (hB : B ≤ w.heap.size) (hn : n ≤ 140737488355000) :
    Calls Try.prog 31 #[.slice ao n cap, .int .u64 x] w fun e w' => ∃ bo cp, e = .returned (.slice bo (n + (enc x).length) cp) ∧ Held w' bo (n + (enc x).length) cp (bs ++ enc x) ∧ w'.ownsRow B 5 1 (.slice bo (n + (enc x).length) cp) (n + (enc x).length) (nums (bs ++ enc x)) ∧ Below B w w' := by
  refine (appendUint_own (.slice ao n cap) n bs x B w (by omega) (by omega) hown hB hn).mono ?_
  rintro e w' ⟨v, rfl, hown', hb⟩
  rw [Int.toNat_natCast] at hown'
  obtain ⟨bo, cp, rfl, hh⟩ := held_of_own hown' (hbs.append (enc_byte x))
  exact ⟨bo, cp, rfl, hh, hown', hb⟩

set_option maxHeartbeats 400000 in
theorem appendList_full (ao : Option Addr) (n cap : Nat) (bs : List Int) (b0 off len lcap : Nat) (ls : List ByteArray) (B : Nat) (w : World)
    (hown : w.ownsRow B 5 1 (.slice ao n cap) n (nums bs)) (hbs : AllB bs) (hB : B ≤ w.heap.size)
    (hS : ∀ w', Below B w w' → HeldS w' (some ⟨b0, off, none⟩) len lcap ls) (hp : 0 < len) (hsum : n + (encAll ls).length ≤ 140737488350000) (hll : len ≤ 9223372036854775807) :
    Calls Try.prog 39 #[.slice ao n cap, .slice (some ⟨b0, off, none⟩) len lcap, .func (Fn.func 20) #[] #[]] w fun e w' => ∃ bo N cp, e = .returned (.slice bo N cp) ∧ Held w' bo N cp (bs ++ enc len ++ encAll ls) ∧ Below B w w' := by
  have h10 := enc_le10 (x := len) (by omega)
  have hls : ls.length = len := (hS w (Below.refl _ _)).hlen
  have hbn : bs.length = n := by have := hown.1; simpa [nums] using this
  have HS := hid hS
  have HO := hid hown
  have HBS := hid hbs
  clear hS hown hbs
  go_enter Try.func39, Try.ntmps39
  go_wp2_with fail
  refine (appendUint_held ao n cap bs len B w (by omega) HO.out HBS.out hB (by omega)).mono ?_
  rintro e w1 ⟨o1, c1, rfl, hh1, _, hb1⟩
  have HH1 := hid hh1
  have HB1 := hid hb1
  clear hh1 hb1
  go_wp2_with fail
  go_loopw [0, 16] (fun b i wr => ∃ (k m : Nat) (bo : Option Addr) (cp : Nat), k ≤ len ∧ i = .int .i64 k ∧ b = .slice bo m cp ∧ Held wr bo m cp (bs ++ enc len ++ encAll (ls.take k)) ∧ Below B w wr) (fun _ i _ => len - (intOf i).toNat)
  case atStart => exact ⟨0, _, o1, c1, by omega, rfl, rfl, by simpa [encAll] using HH1.out, HB1.out⟩
  case round =>
    obtain ⟨k, m, bo, cp, hk, rfl, rfl, hh, hb⟩ := hrel
    have HH := hid hh
    have HB := hid hb
    have hm : m = n + (enc len).length + (encAll (ls.take k)).length := by have := hh.hlen; simp only [List.length_append] at this; omega
    have hml : m ≤ n + 10 + (encAll (ls.take k)).length := by omega
    clear hh hb hm
    by_cases hkl : k < len
    · obtain ⟨s, hs⟩ : ∃ s, s = ls.getD k ByteArray.empty := ⟨_, rfl⟩
      have hit := encAll_item (ls := ls) (k := k) (by omega)
      rw [← hs] at hit
      have hsz := encText_size s
      have hcell : wr.cell? ⟨b0, off + k, none⟩ = some (.string s) := by
        have := (HS.out wr HB.out).cell _ rfl k hkl
        rw [Addr.add_lit] at this
        rw [this, hs]
      have HE : Hid (bs ++ enc len ++ encAll (ls.take (k + 1)) = bs ++ enc len ++ encAll (ls.take k) ++ encText s) := by
        show _ = _
        rw [encAll_snoc (by omega), ← hs]
        simp only [List.append_assoc]
      have hsB : w.heap.size ≤ wr.heap.size := HB.out.size
      clear hs
      go_wp2_with fail
      refine (closure1_any bo m cp _ s wr HH.out (by omega)).mono ?_
      rintro e w2 ⟨bo2, cp2, rfl, hh2, hb2⟩
      have HH2 := hid hh2
      have HB2 : Hid (Below B w w2) := HB.out.trans (hb2.mono (by omega))
      clear hh2 hb2
      go_wp2
      go_roundw
      case rel => exact ⟨k + 1, _, bo2, cp2, by omega, by go_num, rfl, by rw [HE.out]; exact HH2.out, HB2.out⟩
      case measure => simp [intOf]; omega
    · have hke : k = len := by omega
      have HF : Hid (Held wr bo m cp (bs ++ enc len ++ encAll ls)) := by
        have := HH.out
        rw [List.take_of_length_le (by omega)] at this
        exact this
      clear hke
      go_wp2
      go_ret
      exact ⟨bo, m, cp, rfl, HF.out, HB.out⟩

theorem appendList_none (ao : Option Addr) (n cap : Nat) (bs : List Int) (lo : Option Addr) (lcap : Nat) (B : Nat) (w : World)
    (hown : w.ownsRow B 5 1 (.slice ao n cap) n (nums bs)) (hbs : AllB bs) (hB : B ≤ w.heap.size) (hsum : n ≤ 140737488350000) :
    Calls Try.prog 39 #[.slice ao n cap, .slice lo 0 lcap, .func (Fn.func 20) #[] #[]] w fun e w' => ∃ bo N cp, e = .returned (.slice bo N cp) ∧ Held w' bo N cp (bs ++ enc 0) ∧ Below B w w' := by
  have HO := hid hown
  have HBS := hid hbs
  clear hown hbs
  go_enter Try.func39, Try.ntmps39
  go_wp2_with fail
  refine (show Calls _ _ _ w (fun e w' => ∃ bo cp, e = .returned (.slice bo (n + (enc 0).length) cp) ∧ Held w' bo (n + (enc 0).length) cp (bs ++ enc 0) ∧ w'.ownsRow B 5 1 (.slice bo (n + (enc 0).length) cp) (n + (enc 0).length) (nums (bs ++ enc 0)) ∧ Below B w w') from appendUint_held ao n cap bs 0 B w (by omega) HO.out HBS.out hB (by omega)).mono ?_
  rintro e w1 ⟨o1, c1, rfl, hh1, _, hb1⟩
  have HH1 := hid hh1
  have HB1 := hid hb1
  clear hh1 hb1
  go_wp2_with fail
  refine wp_loop_rounds 1 ?_
  rw [rounds_succ]
  go_wp2
  go_ret
  exact ⟨o1, _, c1, rfl, HH1.out, HB1.out⟩
end Go.Proofs.Ytmokelmeihmeiaa
