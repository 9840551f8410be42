/-
  codec.rightEnd and codec.ReadUint: for any bytes the reader answers what 'dec' tells, and writes nothing.
-/
import Derived.Test.YtfmnbehopdmahaaGreatRows
import Derived.Test.YtfmnbehopdmahaaGreatBase
import Derived.Test.YtfmnbehopdmahaaGreatRfV
import Derived.Test.YtfmnbehopdmahaaGreatTexts
import Derived.Test.YtfmnbehopdmahaaGreatScLa
namespace Go.Proofs.YtfmnbehopdmahaaGreat
open Go.RowKit

theorem rightEnd_any (c : Int) (k : Nat) (w : World) (h0 : 0 ≤ c) (h1 : c ≤ 255) (hk : k ≤ 9) :
    Calls Tryz.prog 154 #[.int .u8 c, .int .i64 k] w fun e w' => e = .returned (.bool (rightB c k)) ∧ w' = w := by
  by_cases hk0 : 0 < k
  · have hk0' : (0 : Int) < (k : Int) := by omega
    by_cases hc0 : c = 0
    · subst hc0
      have e : rightB 0 k = false := by simp [rightB, hk0]
      rw [e]
      go_enter Tryz.func154, Tryz.ntmps154
      go_wp2
      go_ret
      exact ⟨rfl, rfl⟩
    · have hc0' : (c == 0) = false := beq_eq_false_iff_ne.2 hc0
      by_cases hk9 : k < 9
      · have hk9' : (k : Int) < 9 := by omega
        have e : rightB c k = true := by simp [rightB, hc0', hk9]
        rw [e]
        go_enter Tryz.func154, Tryz.ntmps154
        go_wp2
        go_ret
        exact ⟨rfl, rfl⟩
      · have hk9' : ¬ (k : Int) < 9 := by omega
        have e : rightB c k = decide (c ≤ 1) := by simp [rightB, hc0', hk9]
        rw [e]
        go_enter Tryz.func154, Tryz.ntmps154
        go_wp2
        go_ret
        exact ⟨rfl, rfl⟩
  · have hk0' : k = 0 := by omega
    subst hk0'
    have e : rightB c 0 = true := by simp [rightB]
    rw [e]
    go_enter Tryz.func154, Tryz.ntmps154
    go_wp2
    go_ret
    exact ⟨rfl, rfl⟩

theorem readUint_full (b off len cap : Nat) (bs : List Int) (w : World) (hlen : bs.length = len) (hp : 0 < len) (hcap : len ≤ cap) (hmax : cap ≤ 9223372036854775807) (hb : AllB bs)
    (hc : ∀ j, j < len → w.cell? ⟨b, off + j, none⟩ = some (.int .u8 (bs.getD j 0))) :
    Calls Tryz.prog 115 #[.slice (some ⟨b, off, none⟩) len cap] w fun e w' => e = .returned (.tuple #[.int .u64 (dec 0 0 bs).1, .int .i64 (dec 0 0 bs).2.1, .int .i64 (dec 0 0 bs).2.2]) ∧ w' = w := by
  by_cases h10 : len ≤ 10
  · have h10' : (len : Int) ≤ 10 := by omega
    go_enter Tryz.func115, Tryz.ntmps115
    go_wp2
    go_loop [5, 14] (fun x i => ∃ (k : Nat) (Y : Int), k ≤ len ∧ i = .int .i64 k ∧ x = .int .u64 Y ∧ ((k = 10 ∧ dec 0 0 bs = (0, 0, 10)) ∨ (k < 10 ∧ ∃ X : Nat, Y = (X : Int) ∧ X < 128 ^ k ∧ dec 0 0 bs = dec X k (bs.drop k)))) (fun _ i => len - (intOf i).toNat)
    case atStart => exact ⟨0, 0, by omega, rfl, rfl, .inr ⟨by omega, 0, rfl, by simp, rfl⟩⟩
    case round =>
      obtain ⟨k, Y, hk, rfl, rfl, hrel⟩ := hrel
      by_cases hkm : k < len
      · obtain ⟨hk9, X, rfl, hX, hd⟩ : k < 10 ∧ ∃ X : Nat, Y = (X : Int) ∧ X < 128 ^ k ∧ dec 0 0 bs = dec X k (bs.drop k) := by
          rcases hrel with h | h
          · omega
          · exact h
        have hcell : w.cell? ⟨b, off + k, none⟩ = some (.int .u8 (bs[k]?.getD 0)) := hc k (by omega)
        have hrk := hb.getD k
        obtain ⟨c, HC⟩ : ∃ c, Hid (c = bs[k]?.getD 0) := ⟨_, rfl⟩
        rw [← HC.out] at hcell hrk
        obtain ⟨hc0, hc1⟩ := hrk
        have HD : Hid (dec 0 0 bs = dec X k (bs.drop k)) := hd
        have HX : Hid (X < 128 ^ k) := hX
        clear hd hc hb hrel hX
        have hmask := and127b hc0 hc1
        have hhigh := and128b hc0 hc1
        by_cases hc128 : c < 128
        · have hz : c / 128 = 0 := by omega
          have hmod : c % 128 = c := by omega
          rw [hmod] at hmask
          clear hmod
          have hlast := dec_last (X := X) (hlen ▸ (by omega : k < len)) hk9 HC.out hc128
          by_cases hr : rightB c k = true
          · have hre := rightEnd_any c k w hc0 hc1 (by omega)
            rw [hr] at hre
            have hv : dec 0 0 bs = (X + c.toNat * 128 ^ k, k + 1, 0) := by rw [HD.out, hlast, if_pos hr]
            have hx : bits .or .u64 (X : Int) (IntKind.u64.wrap (c * 2 ^ (7 * k))) = ((X + c.toNat * 128 ^ k : Nat) : Int) := by
              rw [or_shl HX.out (by omega) hc0, Nat.mod_eq_of_lt (small_sum HX.out (by omega) (by omega) (by have := rightB_small hr; omega))]
            have HV : Hid (dec 0 0 bs = (X + c.toNat * 128 ^ k, k + 1, 0)) := hv
            have HX2 : Hid (bits .or .u64 (X : Int) (IntKind.u64.wrap (c * 2 ^ (7 * k))) = ((X + c.toNat * 128 ^ k : Nat) : Int)) := hx
            have HR := hid hre
            clear hv hx hre hlast hr HD
            go_wp2_with fail
            refine HR.out.mono ?_
            rintro e w' ⟨rfl, rfl⟩
            go_wp2
            go_ret3
            exact ⟨ret3 (by rw [HV.out]; exact HX2.out) (by rw [HV.out]; go_num) (by rw [HV.out]), rfl⟩
          · have hre := rightEnd_any c k w hc0 hc1 (by omega)
            rw [Bool.eq_false_iff.2 hr] at hre
            have hv : dec 0 0 bs = (0, 0, 10) := by rw [HD.out, hlast, if_neg hr]
            have HV : Hid (dec 0 0 bs = (0, 0, 10)) := hv
            have HR := hid hre
            clear hv hre hlast hr HD
            go_wp2_with fail
            refine HR.out.mono ?_
            rintro e w' ⟨rfl, rfl⟩
            go_wp2
            go_ret3
            exact ⟨by rw [HV.out]; rfl, rfl⟩
        · have hz : c / 128 = 1 := by omega
          have hmod : c % 128 = c - 128 := by omega
          rw [hmod] at hmask
          clear hmod
          have hmore := dec_more (X := X) (hlen ▸ (by omega : k < len)) hk9 HC.out hc128
          have HM : Hid (dec 0 0 bs = dec (X + (c.toNat - 128) * 128 ^ k) (k + 1) (bs.drop (k + 1))) := by show _ = _; rw [HD.out, hmore]
          clear hmore HD
          go_wp2
          go_round
          case rel =>
            refine ⟨k + 1, _, by omega, by go_num, rfl, ?_⟩
            by_cases hlast : k = 9
            · refine .inl ⟨by omega, ?_⟩
              rw [HM.out, hlast]
              exact dec_ten _ _
            · refine .inr ⟨by omega, X + (c.toNat - 128) * 128 ^ k, ?_, next_sum HX.out (by omega), HM.out⟩
              rw [or_shl HX.out (by omega) (by omega), show (c - 128).toNat = c.toNat - 128 by omega, Nat.mod_eq_of_lt (small_sum HX.out (by omega) (by omega) (by omega))]
          case measure => simp [intOf]; omega
      · have hv : dec 0 0 bs = (0, 0, 10) := by
          rcases hrel with ⟨_, h⟩ | ⟨_, X, _, _, h⟩
          · exact h
          · rw [h, dec_end (by omega)]
        have HV : Hid (dec 0 0 bs = (0, 0, 10)) := hv
        clear hv hrel hc hb
        go_wp2
        go_ret3
        exact ⟨by rw [HV.out]; rfl, rfl⟩
  · have h10' : ¬ (len : Int) ≤ 10 := by omega
    have hgt : (10 : Int) < (len : Int) := by omega
    go_enter Tryz.func115, Tryz.ntmps115
    go_wp2
    go_loop [5, 14] (fun x i => ∃ (k : Nat) (Y : Int), k ≤ 10 ∧ i = .int .i64 k ∧ x = .int .u64 Y ∧ ((k = 10 ∧ dec 0 0 bs = (0, 0, 10)) ∨ (k < 10 ∧ ∃ X : Nat, Y = (X : Int) ∧ X < 128 ^ k ∧ dec 0 0 bs = dec X k (bs.drop k)))) (fun _ i => 10 - (intOf i).toNat)
    case atStart => exact ⟨0, 0, by omega, rfl, rfl, .inr ⟨by omega, 0, rfl, by simp, rfl⟩⟩
    case round =>
      obtain ⟨k, Y, hk, rfl, rfl, hrel⟩ := hrel
      by_cases hkm : k < 10
      · obtain ⟨hk9, X, rfl, hX, hd⟩ : k < 10 ∧ ∃ X : Nat, Y = (X : Int) ∧ X < 128 ^ k ∧ dec 0 0 bs = dec X k (bs.drop k) := by
          rcases hrel with h | h
          · omega
          · exact h
        have hcell : w.cell? ⟨b, off + k, none⟩ = some (.int .u8 (bs[k]?.getD 0)) := hc k (by omega)
        have hrk := hb.getD k
        obtain ⟨c, HC⟩ : ∃ c, Hid (c = bs[k]?.getD 0) := ⟨_, rfl⟩
        rw [← HC.out] at hcell hrk
        obtain ⟨hc0, hc1⟩ := hrk
        have HD : Hid (dec 0 0 bs = dec X k (bs.drop k)) := hd
        have HX : Hid (X < 128 ^ k) := hX
        clear hd hc hb hrel hX
        have hmask := and127b hc0 hc1
        have hhigh := and128b hc0 hc1
        by_cases hc128 : c < 128
        · have hz : c / 128 = 0 := by omega
          have hmod : c % 128 = c := by omega
          rw [hmod] at hmask
          clear hmod
          have hlast := dec_last (X := X) (hlen ▸ (by omega : k < len)) hk9 HC.out hc128
          by_cases hr : rightB c k = true
          · have hre := rightEnd_any c k w hc0 hc1 (by omega)
            rw [hr] at hre
            have hv : dec 0 0 bs = (X + c.toNat * 128 ^ k, k + 1, 0) := by rw [HD.out, hlast, if_pos hr]
            have hx : bits .or .u64 (X : Int) (IntKind.u64.wrap (c * 2 ^ (7 * k))) = ((X + c.toNat * 128 ^ k : Nat) : Int) := by
              rw [or_shl HX.out (by omega) hc0, Nat.mod_eq_of_lt (small_sum HX.out (by omega) (by omega) (by have := rightB_small hr; omega))]
            have HV : Hid (dec 0 0 bs = (X + c.toNat * 128 ^ k, k + 1, 0)) := hv
            have HX2 : Hid (bits .or .u64 (X : Int) (IntKind.u64.wrap (c * 2 ^ (7 * k))) = ((X + c.toNat * 128 ^ k : Nat) : Int)) := hx
            have HR := hid hre
            clear hv hx hre hlast hr HD
            go_wp2_with fail
            refine HR.out.mono ?_
            rintro e w' ⟨rfl, rfl⟩
            go_wp2
            go_ret3
            exact ⟨ret3 (by rw [HV.out]; exact HX2.out) (by rw [HV.out]; go_num) (by rw [HV.out]), rfl⟩
          · have hre := rightEnd_any c k w hc0 hc1 (by omega)
            rw [Bool.eq_false_iff.2 hr] at hre
            have hv : dec 0 0 bs = (0, 0, 10) := by rw [HD.out, hlast, if_neg hr]
            have HV : Hid (dec 0 0 bs = (0, 0, 10)) := hv
            have HR := hid hre
            clear hv hre hlast hr HD
            go_wp2_with fail
            refine HR.out.mono ?_
            rintro e w' ⟨rfl, rfl⟩
            go_wp2
            go_ret3
            exact ⟨by rw [HV.out]; rfl, rfl⟩
        · have hz : c / 128 = 1 := by omega
          have hmod : c % 128 = c - 128 := by omega
          rw [hmod] at hmask
          clear hmod
          have hmore := dec_more (X := X) (hlen ▸ (by omega : k < len)) hk9 HC.out hc128
          have HM : Hid (dec 0 0 bs = dec (X + (c.toNat - 128) * 128 ^ k) (k + 1) (bs.drop (k + 1))) := by show _ = _; rw [HD.out, hmore]
          clear hmore HD
          go_wp2
          go_round
          case rel =>
            refine ⟨k + 1, _, by omega, by go_num, rfl, ?_⟩
            by_cases hlast : k = 9
            · refine .inl ⟨by omega, ?_⟩
              rw [HM.out, hlast]
              exact dec_ten _ _
            · refine .inr ⟨by omega, X + (c.toNat - 128) * 128 ^ k, ?_, next_sum HX.out (by omega), HM.out⟩
              rw [or_shl HX.out (by omega) (by omega), show (c - 128).toNat = c.toNat - 128 by omega, Nat.mod_eq_of_lt (small_sum HX.out (by omega) (by omega) (by omega))]
          case measure => simp [intOf]; omega
      · have hv : dec 0 0 bs = (0, 0, 10) := by
          rcases hrel with ⟨_, h⟩ | ⟨_, X, _, _, h⟩
          · exact h
          · rw [h, dec_end (by omega)]
        have HV : Hid (dec 0 0 bs = (0, 0, 10)) := hv
        clear hv hrel hc hb
        go_wp2
        go_ret3
        exact ⟨by rw [HV.out]; rfl, rfl⟩

theorem readUint_empty (ao : Option Addr) (cap : Nat) (w : World) :
    Calls Tryz.prog 115 #[.slice ao 0 cap] w fun e w' => e = .returned (.tuple #[.int .u64 0, .int .i64 0, .int .i64 10]) ∧ w' = w := by
  go_enter Tryz.func115, Tryz.ntmps115
  go_wp2
  refine wp_loop_rounds 1 ?_
  rw [rounds_succ]
  go_wp2
  go_ret3
  exact ⟨rfl, rfl⟩

theorem readUint_any (ao : Option Addr) (len cap : Nat) (bs : List Int) (w : World) (h : Held w ao len cap bs) :
    Calls Tryz.prog 115 #[.slice ao len cap] w fun e w' => e = .returned (.tuple #[.int .u64 (dec 0 0 bs).1, .int .i64 (dec 0 0 bs).2.1, .int .i64 (dec 0 0 bs).2.2]) ∧ w' = w := by
  by_cases hp : 0 < len
  · obtain ⟨b, off, rfl, hb, hc⟩ := h.at hp
    exact readUint_full b off len cap bs w h.hlen hp h.hcap (by have := h.hmax; unfold maxLen at this; omega) h.byte hc
  · obtain rfl : len = 0 := by omega
    have : bs = [] := List.eq_nil_of_length_eq_zero h.hlen
    subst this
    exact readUint_empty ao cap w
end Go.Proofs.YtfmnbehopdmahaaGreat
/-
  Package codec: a reader in memory; demand, take of a number, number, truth.
-/
namespace Go.Proofs.YtfmnbehopdmahaaGreat
open Go.RowKit Go.Maps

/-- A reader in memory, in its block rb: st is what is left to be read, if nothing was refused. -/
structure RdAt (w : World) (rb : Nat) (ao : Option Addr) (len cap : Nat) (bs : List Int) (st : Option (List Int)) : Prop where
  held : Held w ao len cap bs
  blk : ∃ (at' : Nat) (er : Int), Blk w rb 158 [.slice ao len cap, .int .i64 (at' : Int), .int .i64 er] ∧ at' ≤ len ∧ ((st = some (bs.drop at') ∧ er = 0) ∨ (st = none ∧ er = 10))
/-- What is left behind a part. -/
def nxt {α : Type} (st : Option (List Int)) (p : Rdr α) : Option (List Int) := (st.bind p).map (·.2)
/-- What a part told, if it was not refused. -/
def Got {α : Type} (st : Option (List Int)) (p : Rdr α) (y : α) : Prop := ∀ x r, st.bind p = some (x, r) → y = x
theorem held_off {w : World} {ao : Option Addr} {len cap : Nat} {bs : List Int} {rb : Nat} {c0 : Option Addr} {l0 k0 : Nat} {a1 a2 : Int} {t : TypeId} (h : Held w ao len cap bs) (k : Blk w rb t [.slice c0 l0 k0, .int .i64 a1, .int .i64 a2]) : ∀ ad, ao = some ad → 0 < len → ad.block ≠ rb := by
  intro ad e hl hb
  obtain ⟨b, off, h1, _, h2⟩ := h.at hl
  rw [e] at h1
  cases h1
  have hb' : b = rb := hb
  subst hb'
  have h3 := h2 0 hl
  have hk := k
  unfold Blk at hk
  simp only [World.cell?, hk] at h3
  simp at h3
  match off, h3 with
  | 0, h3 => simp at h3
  | 1, h3 => simp at h3
  | 2, h3 => simp at h3
  | n + 3, h3 => simp at h3
theorem Held.turned {F : Nat → Prop} {w w' : World} {ao : Option Addr} {len cap : Nat} {bs : List Int} (h : Held w ao len cap bs) (ht : Turns F w w') (hn : ∀ ad, ao = some ad → 0 < len → ¬ F ad.block) : Held w' ao len cap bs :=
  ⟨h.hlen, h.hcap, h.hmax, h.nil, h.byte, fun ad e j hj => by
    have h0 : 0 < len := by omega
    have hlt := h.old ad e h0
    have hnf := hn ad e h0
    have hc := h.cell ad e j hj
    obtain ⟨b, off, h1, _, _⟩ := h.at h0
    rw [e] at h1
    cases h1
    have e1 : w'.cell? ((⟨b, off, none⟩ : Addr).add j) = w.cell? ((⟨b, off, none⟩ : Addr).add j) := by rw [Addr.add_lit]; simp only [World.cell?]; rw [ht.block b hlt hnf]
    rw [e1]
    exact hc, fun ad e hp => Nat.lt_of_lt_of_le (h.old ad e hp) ht.size⟩
theorem RdAt.below {w w' : World} {rb : Nat} {ao : Option Addr} {len cap : Nat} {bs : List Int} {st : Option (List Int)} (h : RdAt w rb ao len cap bs st) (hb : Below w.heap.size w w') : RdAt w' rb ao len cap bs st := by
  obtain ⟨at', er, h1, h2⟩ := h.blk
  exact ⟨h.held.below hb (Nat.le_refl _), at', er, h1.below hb h1.lt, h2⟩
/-- demand: refuses what was read, unless it may be. -/
theorem RdAt.demand {w : World} {rb : Nat} {ao : Option Addr} {len cap : Nat} {bs : List Int} {st : Option (List Int)} (h : RdAt w rb ao len cap bs st) (b : Bool) : Calls Tryz.prog 116 #[.pointer (some ⟨rb, 0, none⟩), .bool b] w fun e w' => e = .returned (.tuple #[]) ∧ RdAt w' rb ao len cap bs (if b = true then st else none) ∧ Turns (fun i => i = rb) w w' := by
  obtain ⟨at', er, hk, hat, hst⟩ := h.blk
  have HH := hid h
  have HK := hid hk
  have c2 := hk.cell (i := 2) rfl
  have f2 := hk.frozen 2
  rcases hst with ⟨rfl, rfl⟩ | ⟨rfl, rfl⟩
  · cases b
    · obtain ⟨W3, hW3⟩ : ∃ V, V = w.setCell ⟨rb, 2, none⟩ (.int .i64 10) := ⟨_, rfl⟩
      have hT : Turns (fun i => i = rb) w W3 := by rw [hW3]; exact (Turns.refl (fun i => i = rb) w).setCell (p := ⟨rb, 2, none⟩) (.inl rfl) _
      have HF : Hid (RdAt W3 rb ao len cap bs none) := ⟨h.held.turned hT (held_off h.held hk), at', 10, by rw [hW3]; exact hk.set 2 _, hat, .inr ⟨rfl, rfl⟩⟩
      have HT := hid hT
      clear hT hk h
      go_enter Tryz.func116, Tryz.ntmps116
      go_wp2
      rw [← hW3]
      (try simp only [Exit.inBlock, Exit.then])
      refine bodyPost_end (results_none rfl _ _ _) rfl ?_
      exact ⟨rfl, HF.out, HT.out⟩
    · clear hk h
      go_enter Tryz.func116, Tryz.ntmps116
      go_wp2
      (try simp only [Exit.inBlock, Exit.then])
      refine bodyPost_end (results_none rfl _ _ _) rfl ?_
      exact ⟨rfl, HH.out, Turns.refl _ _⟩
  · clear hk h
    cases b
    · go_enter Tryz.func116, Tryz.ntmps116
      go_wp2
      (try simp only [Exit.inBlock, Exit.then])
      refine bodyPost_end (results_none rfl _ _ _) rfl ?_
      exact ⟨rfl, HH.out, Turns.refl _ _⟩
    · go_enter Tryz.func116, Tryz.ntmps116
      go_wp2
      (try simp only [Exit.inBlock, Exit.then])
      refine bodyPost_end (results_none rfl _ _ _) rfl ?_
      exact ⟨rfl, HH.out, Turns.refl _ _⟩
/-- A number of whatever size. -/
def pU : Rdr Nat := fun b => if (dec 0 0 b).2.2 = 0 then some ((dec 0 0 b).1, b.drop (dec 0 0 b).2.1) else none
theorem pU_num (most : Nat) (b : List Int) : pNum most b = (pU b).bind fun r => if r.1 ≤ most then some ((r.1 : Int), r.2) else none := by
  unfold pNum pU
  by_cases h : (dec 0 0 b).2.2 = 0
  · rw [if_pos h]
    show _ = (if (dec 0 0 b).1 ≤ most then some (((dec 0 0 b).1 : Int), b.drop (dec 0 0 b).2.1) else none)
    by_cases h2 : (dec 0 0 b).1 ≤ most
    · rw [if_pos ⟨h, h2⟩, if_pos h2]
    · rw [if_neg (fun hh => h2 hh.2), if_neg h2]
  · rw [if_neg h, if_neg (fun hh => h hh.1)]
    rfl
theorem size1R (w : World) : (Go.sizeOf 5).run Tryz.prog w = .ok 1 w := by kernel_rfl
set_option maxRecDepth 1000000 in
set_option maxHeartbeats 4000000 in
theorem RdAt.takeU {w : World} {rb : Nat} {ao : Option Addr} {len cap : Nat} {bs : List Int} {st : Option (List Int)} (h : RdAt w rb ao len cap bs st) : Calls Tryz.prog 114 #[.pointer (some ⟨rb, 0, none⟩), .func (.func 115) #[] #[]] w fun e w' => (∃ y : Nat, e = .returned (.int .u64 (y : Int)) ∧ y < 18446744073709551616 ∧ Got st pU y) ∧ RdAt w' rb ao len cap bs (nxt st pU) ∧ Turns (fun i => i = rb) w w' := by
  obtain ⟨at', er, hk, hat, hst⟩ := h.blk
  have HH := hid h
  have HK := hid hk
  have c0 := hk.cell (i := 0) rfl
  have c1 := hk.cell (i := 1) rfl
  have c2 := hk.cell (i := 2) rfl
  have f1 := hk.frozen 1
  have f2 := hk.frozen 2
  rcases hst with ⟨rfl, rfl⟩ | ⟨rfl, rfl⟩
  · have hcut : ∀ W, (Instr.slice 66 (.slice ao len cap) (some (.int .i64 (at' : Int))) none none).run Tryz.prog W = .ok (.slice (cutAt ao cap at') (len - at') (cap - at')) W := fun W => run_cut_l W 66 5 Tryz.underlying66 size1R ao len cap at' _ rfl hat
    obtain ⟨co, hco⟩ : ∃ q, q = cutAt ao cap at' := ⟨_, rfl⟩
    obtain ⟨L, hL⟩ : ∃ q, q = len - at' := ⟨_, rfl⟩
    obtain ⟨C, hC⟩ : ∃ q, q = cap - at' := ⟨_, rfl⟩
    have HHC : Hid (Held w co L C (bs.drop at')) := by rw [hco, hL, hC]; exact hid (h.held.cutl hat)
    rw [← hco, ← hL, ← hC] at hcut
    obtain ⟨X, n, E, hd⟩ : ∃ X n E, dec 0 0 (bs.drop at') = (X, n, E) := ⟨_, _, _, rfl⟩
    have HD := hid hd
    have HRU : Hid (∀ V, ScL w V → Calls Tryz.prog 115 #[.slice co L C] V fun e w' => e = .returned (.tuple #[.int .u64 (X : Int), .int .i64 (n : Int), .int .i64 E]) ∧ ScL w w') := fun V hV => by
      have h1 := readUint_any co L C (bs.drop at') V (HHC.out.below hV.out (Nat.le_refl _))
      rw [HD.out] at h1
      exact h1.mono fun e w' ⟨h2, h3⟩ => ⟨h2, by rw [h3]; exact hV⟩
    have HSA : Hid (∀ V, ScL w V → (ScL w V ∧ V.cell? ⟨rb, 0, none⟩ = some (.slice ao len cap) ∧ V.cell? ⟨rb, 1, none⟩ = some (.int .i64 (at' : Int)))) := fun V hV => ⟨hV, (hV.out.cell (p := ⟨rb, 0, none⟩) HK.out.lt).trans c0, (hV.out.cell (p := ⟨rb, 1, none⟩) HK.out.lt).trans c1⟩
    have HBY : Hid (AllB (bs.drop at')) := fun c hc => h.held.byte c (List.mem_of_mem_drop hc)
    have HLE : Hid (L = (bs.drop at').length ∧ at' + L = len) := ⟨by rw [hL, List.length_drop, h.held.hlen], by omega⟩
    have HMX : Hid (len ≤ 9223372036854775807) := by have h1 := h.held.hcap; have h2 := h.held.hmax; unfold maxLen at h2; exact hid (by omega)
    rcases dec_cases (bs.drop at') 0 0 with hbad | ⟨X', n', hgood⟩
    · rw [hd] at hbad
      obtain ⟨rfl, rfl, rfl⟩ : X = 0 ∧ n = 0 ∧ E = 10 := by cases hbad; exact ⟨rfl, rfl, rfl⟩
      have HP : Hid (pU (bs.drop at') = none) := by show _ = _; unfold pU; rw [HD.out]; exact if_neg (by decide)
      clear hbad hd hco hL hC h hk
      go_enter Tryz.func114, Tryz.ntmps114
      go_wp2
      go_region_held3 (fun V => ScL w V ∧ V.cell? ⟨rb, 0, none⟩ = some (.slice ao len cap) ∧ V.cell? ⟨rb, 1, none⟩ = some (.int .i64 (at' : Int)))
        (first | (refine HSA.out _ ?_; (repeat (first | with_reducible assumption | with_reducible exact ScL.start _ | with_reducible apply ScL.dr)); done))
        ((go_at_call 115; with_reducible refine (HRU.out _ (by (repeat (first | assumption | exact ScL.start _ | apply ScL.dr)))).mono ?_; rintro e w5 ⟨rfl, hs5⟩))
      all_goals
        have hk5 := HK.out.below hs5.out HK.out.lt
        have d2 := hk5.cell (i := 2) rfl
        have g2 := hk5.frozen 2
        obtain ⟨W3, hW3⟩ : ∃ V, V = w5.setCell ⟨rb, 2, none⟩ (.int .i64 10) := ⟨_, rfl⟩
        have hT : Turns (fun i => i = rb) w5 W3 := by rw [hW3]; exact (Turns.refl (fun i => i = rb) w5).setCell (p := ⟨rb, 2, none⟩) (.inl rfl) _
        have HF : Hid (RdAt W3 rb ao len cap bs (nxt (some (bs.drop at')) pU)) := by
          refine ⟨(HH.out.held.below hs5.out (Nat.le_refl _)).turned hT (held_off (HH.out.held.below hs5.out (Nat.le_refl _)) hk5), at', 10, by rw [hW3]; exact hk5.set 2 _, hat, .inr ⟨?_, rfl⟩⟩
          unfold nxt
          rw [Option.bind_some, HP.out]
          rfl
        have HT : Hid (Turns (fun i => i = rb) w W3) := (Turns.of_below (F := fun i => i = rb) hs5.out (Nat.le_refl _)).trans hT (fun i hi => .inl hi)
        clear hk5 hT hs5
        go_wp2
        rw [← hW3]
        go_ret
        exact ⟨⟨0, rfl, by decide, fun x r hx => by rw [Option.bind_some, HP.out] at hx; cases hx⟩, HF.out, HT.out⟩
    · rw [hd] at hgood
      obtain ⟨rfl, rfl, rfl⟩ : X = X' ∧ n = n' ∧ E = 0 := by cases hgood; exact ⟨rfl, rfl, rfl⟩
      obtain ⟨_, hx64, hnl, _⟩ := dec_back HBY.out hd
      have HX64 := hid hx64
      have HNL : Hid (at' + n ≤ len) := by have := HLE.out; exact hid (by omega)
      have HP : Hid (pU (bs.drop at') = some (X, (bs.drop at').drop n)) := by show _ = _; unfold pU; rw [HD.out]; exact if_pos rfl
      have hsum : IntKind.i64.wrap ((at' : Int) + (n : Int)) = (at' : Int) + (n : Int) := by rw [IntKind.wrap_i64]; have h1 := HNL.out; have h2 := HMX.out; omega
      clear hgood hd hco hL hC h hk hx64 hnl
      go_enter Tryz.func114, Tryz.ntmps114
      go_wp2
      go_region_held3 (fun V => ScL w V ∧ V.cell? ⟨rb, 0, none⟩ = some (.slice ao len cap) ∧ V.cell? ⟨rb, 1, none⟩ = some (.int .i64 (at' : Int)))
        (first | (refine HSA.out _ ?_; (repeat (first | with_reducible assumption | with_reducible exact ScL.start _ | with_reducible apply ScL.dr)); done))
        ((go_at_call 115; with_reducible refine (HRU.out _ (by (repeat (first | assumption | exact ScL.start _ | apply ScL.dr)))).mono ?_; rintro e w5 ⟨rfl, hs5⟩))
      all_goals
        have hk5 := HK.out.below hs5.out HK.out.lt
        have d1 := hk5.cell (i := 1) rfl
        have g1 := hk5.frozen 1
        obtain ⟨W3, hW3⟩ : ∃ V, V = w5.setCell ⟨rb, 1, none⟩ (.int .i64 ((at' : Int) + (n : Int))) := ⟨_, rfl⟩
        have hT : Turns (fun i => i = rb) w5 W3 := by rw [hW3]; exact (Turns.refl (fun i => i = rb) w5).setCell (p := ⟨rb, 1, none⟩) (.inl rfl) _
        have HF : Hid (RdAt W3 rb ao len cap bs (nxt (some (bs.drop at')) pU)) := by
          refine ⟨(HH.out.held.below hs5.out (Nat.le_refl _)).turned hT (held_off (HH.out.held.below hs5.out (Nat.le_refl _)) hk5), at' + n, 0, by rw [hW3]; exact hk5.set 1 _, HNL.out, .inl ⟨?_, rfl⟩⟩
          unfold nxt
          rw [Option.bind_some, HP.out, ← List.drop_drop]
          rfl
        have HT : Hid (Turns (fun i => i = rb) w W3) := (Turns.of_below (F := fun i => i = rb) hs5.out (Nat.le_refl _)).trans hT (fun i hi => .inl hi)
        clear hk5 hT hs5
        go_wp2
        rw [← hW3]
        go_ret
        exact ⟨⟨X, rfl, HX64.out, fun x r hx => by rw [Option.bind_some, HP.out] at hx; cases hx; rfl⟩, HF.out, HT.out⟩
  · clear hk h
    go_enter Tryz.func114, Tryz.ntmps114
    go_wp2
    go_ret
    exact ⟨⟨0, rfl, by decide, fun x r hx => by cases hx⟩, HH.out, Turns.refl _ _⟩
end Go.Proofs.YtfmnbehopdmahaaGreat
/-
  Package codec: a reader's number and truth.
-/
namespace Go.Proofs.YtfmnbehopdmahaaGreat
open Go.RowKit Go.Maps

theorem nxt_num {st : Option (List Int)} {y most : Nat} (h : Got st pU y) : (if decide (y ≤ most) = true then nxt st pU else none) = nxt st (pNum most) := by
  unfold nxt
  cases st with
  | none => simp
  | some b =>
    simp only [Option.bind_some]
    rw [pU_num]
    cases hp : pU b with
    | none => simp
    | some r =>
      obtain ⟨x, s⟩ := r
      have hy : y = x := h x s (by rw [Option.bind_some]; exact hp)
      subst hy
      by_cases hc : y ≤ most
      · simp [hc]
      · simp [hc]
theorem got_num {st : Option (List Int)} {y most : Nat} (h : Got st pU y) : Got st (pNum most) (y : Int) := by
  intro x r hx
  cases st with
  | none => cases hx
  | some b =>
    rw [Option.bind_some, pU_num] at hx
    cases hp : pU b with
    | none => rw [hp] at hx; cases hx
    | some t =>
      obtain ⟨z, s⟩ := t
      have hy : y = z := h z s (by rw [Option.bind_some]; exact hp)
      subst hy
      rw [hp] at hx
      change (if y ≤ most then some ((y : Int), s) else none) = some (x, r) at hx
      split at hx
      · cases hx; rfl
      · cases hx
theorem got_no {st : Option (List Int)} {y most : Nat} (h : Got st pU y) (hc : ¬ y ≤ most) (z : Int) : Got st (pNum most) z := by
  intro x r hx
  cases st with
  | none => cases hx
  | some b =>
    rw [Option.bind_some, pU_num] at hx
    cases hp : pU b with
    | none => rw [hp] at hx; cases hx
    | some t =>
      obtain ⟨u, s⟩ := t
      have hy : y = u := h u s (by rw [Option.bind_some]; exact hp)
      subst hy
      rw [hp] at hx
      change (if y ≤ most then some ((y : Int), s) else none) = some (x, r) at hx
      rw [if_neg hc] at hx
      cases hx
theorem turns_one {rb : Nat} {a b c : World} (h : Turns (fun i => i = rb) a b) (k : Turns (fun i => i = rb) b c) : Turns (fun i => i = rb) a c := h.trans k (fun _ hi => .inl hi)
set_option maxRecDepth 1000000 in
set_option maxHeartbeats 2000000 in
theorem RdAt.number {w : World} {rb : Nat} {ao : Option Addr} {len cap : Nat} {bs : List Int} {st : Option (List Int)} (h : RdAt w rb ao len cap bs st) (most : Nat) (hm : most ≤ 4611686018427387904) : Calls Tryz.prog 73 #[.pointer (some ⟨rb, 0, none⟩), .int .u64 (most : Int)] w fun e w' => (∃ y : Int, e = .returned (.int .i64 y) ∧ I64 y ∧ Got st (pNum most) y) ∧ RdAt w' rb ao len cap bs (nxt st (pNum most)) ∧ Turns (fun i => i = rb) w w' := by
  have HTK := hid h.takeU
  have HM := hid hm
  clear h hm
  go_enter Tryz.func73, Tryz.ntmps73
  go_wp2_with fail
  refine HTK.out.mono ?_
  rintro e w1 ⟨⟨y, rfl, hy64, hgot⟩, hrd, ht⟩
  have HG := hid hgot
  have HR := hid hrd
  have HT := hid ht
  have HY := hid hy64
  clear hgot hrd ht hy64 HTK
  by_cases hc : y ≤ most
  · have hcI : ((y : Int) ≤ (most : Int)) := by omega
    have hwr : IntKind.i64.wrap (y : Int) = (y : Int) := by rw [IntKind.wrap_i64]; have h1 := HM.out; omega
    have HI : Hid (I64 (y : Int)) := by unfold I64; have h1 := HM.out; exact hid ⟨by omega, by omega⟩
    have HDM : Hid (Calls Tryz.prog 116 #[.pointer (some ⟨rb, 0, none⟩), .bool true] w1 fun e w' => e = .returned (.tuple #[]) ∧ RdAt w' rb ao len cap bs (nxt st (pNum most)) ∧ Turns (fun i => i = rb) w1 w') := by
      have h1 := HR.out.demand true
      rw [← nxt_num (most := most) HG.out, decide_eq_true hc]
      exact h1
    go_wp2_with fail
    refine HDM.out.mono ?_
    rintro e w2 ⟨rfl, hr2, ht2⟩
    have HR2 := hid hr2
    have HT2 := hid (turns_one HT.out ht2)
    clear hr2 ht2 HDM
    go_wp2
    go_ret
    exact ⟨⟨(y : Int), rfl, HI.out, got_num HG.out⟩, HR2.out, HT2.out⟩
  · have hcI : ¬ ((y : Int) ≤ (most : Int)) := by omega
    obtain ⟨z, HZ⟩ : ∃ z, Hid (IntKind.i64.wrap (y : Int) = z) := ⟨_, hid rfl⟩
    have hz := HZ.out
    have HI : Hid (I64 z) := by rw [← HZ.out, IntKind.wrap_i64]; unfold I64; exact hid ⟨by omega, by omega⟩
    have HDM : Hid (Calls Tryz.prog 116 #[.pointer (some ⟨rb, 0, none⟩), .bool false] w1 fun e w' => e = .returned (.tuple #[]) ∧ RdAt w' rb ao len cap bs (nxt st (pNum most)) ∧ Turns (fun i => i = rb) w1 w') := by
      have h1 := HR.out.demand false
      rw [← nxt_num (most := most) HG.out, decide_eq_false hc]
      exact h1
    go_wp2_with fail
    refine HDM.out.mono ?_
    rintro e w2 ⟨rfl, hr2, ht2⟩
    have HR2 := hid hr2
    have HT2 := hid (turns_one HT.out ht2)
    clear hr2 ht2 HDM
    go_wp2
    go_ret
    exact ⟨⟨z, rfl, HI.out, got_no HG.out hc z⟩, HR2.out, HT2.out⟩
theorem nxt_map {α β : Type} (st : Option (List Int)) (f : α → β) (p : Rdr α) : nxt st (pMap f p) = nxt st p := by
  unfold nxt pMap
  cases st with
  | none => rfl
  | some b => simp only [Option.bind_some]; cases p b <;> rfl
theorem got_map {α β : Type} {st : Option (List Int)} (f : α → β) {p : Rdr α} {y : α} (h : Got st p y) : Got st (pMap f p) (f y) := by
  intro x r hx
  cases st with
  | none => cases hx
  | some b =>
    simp only [Option.bind_some, pMap] at hx
    cases hp : p b with
    | none => rw [hp] at hx; cases hx
    | some t =>
      obtain ⟨z, s⟩ := t
      rw [hp] at hx
      cases hx
      rw [h z s (by rw [Option.bind_some]; exact hp)]
set_option maxRecDepth 1000000 in
theorem RdAt.truth {w : World} {rb : Nat} {ao : Option Addr} {len cap : Nat} {bs : List Int} {st : Option (List Int)} (h : RdAt w rb ao len cap bs st) : Calls Tryz.prog 117 #[.pointer (some ⟨rb, 0, none⟩)] w fun e w' => (∃ t : Bool, e = .returned (.bool t) ∧ Got st pBool t) ∧ RdAt w' rb ao len cap bs (nxt st pBool) ∧ Turns (fun i => i = rb) w w' := by
  have HN := hid (h.number 1 (by decide))
  clear h
  go_enter Tryz.func117, Tryz.ntmps117
  go_wp2_with fail
  refine HN.out.mono ?_
  rintro e w1 ⟨⟨y, rfl, _, hgot⟩, hrd, ht⟩
  have HG := hid (got_map (fun x => decide (x = 1)) hgot)
  have HR : Hid (RdAt w1 rb ao len cap bs (nxt st pBool)) := by unfold pBool; rw [nxt_map]; exact hrd
  have HT := hid ht
  clear hgot hrd ht HN
  by_cases hy : y = 1
  · subst hy
    go_wp2
    go_ret
    exact ⟨⟨true, rfl, HG.out⟩, HR.out, HT.out⟩
  · have hd : (y == 1) = false := by simpa using hy
    have HG' : Hid (Got st pBool false) := by have := HG.out; simp only [decide_eq_false hy] at this; exact hid this
    go_wp2
    go_ret
    exact ⟨⟨false, rfl, HG'.out⟩, HR.out, HT.out⟩
end Go.Proofs.YtfmnbehopdmahaaGreat
