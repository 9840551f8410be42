/-
  Package disk: a Crash that is refused.
-/
import Derived.Test.YtjfohnkfcfifeaaDiskM
import Derived.Deep.QuietTactic
import Derived.BigQuiet
namespace Go.Proofs.Ytjfohnkfcfifeaa
open Go.RowKit Go.Maps

theorem okFrom_of {fs : List Fl} : ∀ {pre ts : List (ByteArray × Int)} (_ : ∀ i (hi : i < ts.length), okOne fs (pre ++ ts.take i) ts[i]), okFrom fs pre ts
  | _, [], _ => trivial
  | pre, t :: r, h => ⟨by have := h 0 (by simp); simp only [List.take_zero, List.append_nil, List.getElem_cons_zero] at this; exact this, okFrom_of fun i hi => by
      have := h (i + 1) (by simpa using hi)
      simpa using this⟩
theorem one_pre {fs : List Fl} {ts : List (ByteArray × Int)} {j : Nat} (hlt : j < ts.length) (h : ∀ i (hi : i < ts.length), i < j → okOne fs (ts.take i) ts[i]) (h1 : okOne fs (ts.take j) ts[j]) : ∀ i (hi : i < ts.length), i < j + 1 → okOne fs (ts.take i) ts[i] := fun i hi hij => by
  rcases Nat.lt_or_eq_of_le (Nat.le_of_lt_succ hij) with h2 | h2
  · exact h i hi h2
  · subst h2
    exact h1

section
variable {w : World} {p bm : Nat} {size calls : Int} {fs : List Fl} {D : DataW Value}
set_option maxRecDepth 100000 in
set_option maxHeartbeats 4000000 in
theorem lasting_bad (h : DiskAt w p bm size calls fs D) (ao : Option Addr) (cap : Nat) (ts : List (ByteArray × Int)) (hT : HeldT w ao ts) (hbad : ¬ okFrom fs [] ts) :
    Calls Try.prog 42 #[.pointer (some ⟨p, 0, none⟩), .slice ao ts.length cap] w fun e w' => e = .returned (.tuple #[.map none, .bool false]) ∧ Below w.heap.size w w' := by
  have HH := hid h
  have HT := hid hT
  have HBAD := hid hbad
  have hfew := hT.few
  clear h hT hbad
  go_enter Try.func42, Try.ntmps42
  have hmm := @run_makeMap Try.prog
  go_wp2
  clear hmm
  go_loopw [15] (fun a wr => ∃ (j : Nat) (D' : DataW Value), j ≤ ts.length ∧ a = .int .i64 j ∧ wr.ownsMap Try.prog 9 valR w.heap.size j D' ∧ (∀ s, look D' (key s) = (tfind (ts.take j) s).map (Value.int .i64)) ∧ (∀ i (hi : i < ts.length), i < j → okOne fs (ts.take i) ts[i]) ∧ Below w.heap.size w wr) (fun a _ => ts.length - (intOf a).toNat)
  case atStart => exact ⟨0, .map [], Nat.zero_le _, rfl, World.ownsMap_made w _ _ _, fun s => rfl, fun i _ hi => absurd hi (Nat.not_lt_zero i), (Below.refl _ w).alloc (Nat.le_refl _) _⟩
  case round =>
    obtain ⟨j, D', hj, rfl, hown, hlook, hpre, hbel⟩ := hrel
    have HO := hid hown
    have HL := hid hlook
    have HB := hid hbel
    have HPRE := hid hpre
    clear hown hlook hbel hpre
    by_cases hlt : j < ts.length
    · obtain ⟨t, ht⟩ : ∃ t, t = ts[j] := ⟨_, rfl⟩
      have htm : t ∈ ts := by rw [ht]; exact List.getElem_mem hlt
      have hTr := HT.out.below HB.out (Nat.le_refl _)
      rcases hTr.cell with h0 | ⟨b, off, hao, hbl, hc⟩
      · rw [h0] at hlt
        simp at hlt
      subst hao
      obtain ⟨hc0, hc1⟩ := hc j hlt
      rw [← ht] at hc0 hc1
      have hlt' : (j : Int) < (ts.length : Int) := by omega
      clear hTr hc
      rcases hff : ffind fs t.1 with _ | f
      · have hf := hff
        have hnm := HT.out.name t htm
        have hr1 := HB.out.size
        obtain ⟨s, x⟩ := t
        have HHr := hid (HH.out.below HB.out (Nat.le_refl _))
        have hcp := HHr.out.blk.cell (i := 1) rfl
        have hpl := HHr.out.blk.lt
        have HF := hid hf
        clear ht htm hff
        simp only at hc0 hc1 HF
        go_wp2
        have HBK : Hid (Blk (wr.alloc (.cells #[.string s, .int .i64 x] 53)) wr.heap.size 53 [.string s, .int .i64 x]) := Blk.new wr 53 [.string s, .int .i64 x]
        have HD1 := hid (HHr.out.alloc (.cells #[.string s, .int .i64 x] 53))
        have HO1 := hid (HO.out.alloc (.cells #[.string s, .int .i64 x] 53))
        have HB1 : Hid (Below w.heap.size w (wr.alloc (.cells #[.string s, .int .i64 x] 53))) := HB.out.alloc hr1 _
        have hkb : w.heap.size ≤ wr.heap.size := hr1
        generalize wr.alloc (.cells #[.string s, .int .i64 x] 53) = W1 at *
        generalize wr.heap.size = kb at *
        clear hc0 hc1 hcp hpl
        have k0 := HBK.out.cell (i := 0) rfl
        have k1 := HBK.out.cell (i := 1) rfl
        have cp := HD1.out.blk.cell (i := 1) rfl
        have hlk := dlook HD1.out.drew hnm
        rw [HF.out] at hlk
        simp only [Option.map_none, Option.getD_none] at hlk
        have HKEY := hid (Try.keyStr hnm)
        obtain ⟨lv, hlv⟩ : ∃ v, (look D' (key s)).getD (.int .i64 0) = v := ⟨_, rfl⟩
        obtain ⟨lo, hlo⟩ : ∃ v, (look D' (key s)).isSome = v := ⟨_, rfl⟩
        have HV := hid hlv
        have HV2 := hid hlo
        clear hlv hlo
        go_region_held3 (fun V => V.cell? ⟨kb, 0, none⟩ = some (.string s) ∧ V.cell? ⟨p, 1, none⟩ = some (.map (some bm)) ∧ (Instr.lookup 49 (.map (some bm)) (.string s) false).run Try.prog V = .ok (.pointer none) V) (first | go_keep | (refine ⟨?_, ?_, ?_⟩ <;> assumption)) (fail)
        clear hlk
        go_wp2_with (at_lookup; refine wpList_look_ok _ rfl _ _ 72 rfl 9 3 Try.keyedStr Try.underlying72 (.int .i64 0) (Try.zeroInt _) w.heap.size _ D' rfl HO1.out.drew _ (key s) rfl HKEY.out lv lo HV.out HV2.out ?_)
        go_quiet (fail)
        all_goals
          go_wp2
          go_ret2
          first | exact ⟨rfl, below_dn HB1.out _⟩ | exact ⟨rfl, below_dn HB1.out.drew _⟩
      · rcases htw : tfind (ts.take j) t.1 with _ | y
        · by_cases hx : t.2 < 0
          · have hf := hff
            have hnm := HT.out.name t htm
            have hr1 := HB.out.size
            obtain ⟨s, x⟩ := t
            have HHr := hid (HH.out.below HB.out (Nat.le_refl _))
            have hcp := HHr.out.blk.cell (i := 1) rfl
            have hpl := HHr.out.blk.lt
            have HF := hid hf
            have HTW := hid htw
            have hep := fun W => eql_ptr_nil W f.ptr
            clear ht htm hff htw
            simp only at hc0 hc1 HF HTW hx
            go_wp2
            have HBK : Hid (Blk (wr.alloc (.cells #[.string s, .int .i64 x] 53)) wr.heap.size 53 [.string s, .int .i64 x]) := Blk.new wr 53 [.string s, .int .i64 x]
            have HD1 := hid (HHr.out.alloc (.cells #[.string s, .int .i64 x] 53))
            have HO1 := hid (HO.out.alloc (.cells #[.string s, .int .i64 x] 53))
            have HB1 : Hid (Below w.heap.size w (wr.alloc (.cells #[.string s, .int .i64 x] 53))) := HB.out.alloc hr1 _
            have hkb : w.heap.size ≤ wr.heap.size := hr1
            generalize wr.alloc (.cells #[.string s, .int .i64 x] 53) = W1 at *
            generalize wr.heap.size = kb at *
            clear hc0 hc1 hcp hpl
            have k0 := HBK.out.cell (i := 0) rfl
            have k1 := HBK.out.cell (i := 1) rfl
            have cp := HD1.out.blk.cell (i := 1) rfl
            have hlk := dlook HD1.out.drew hnm
            rw [HF.out] at hlk
            simp only [Option.map_some, Option.getD_some, Fl.at] at hlk
            have HKEY := hid (Try.keyStr hnm)
            have HV : Hid ((look D' (key s)).getD (.int .i64 0) = .int .i64 0) := by show _ = _; rw [HL.out, HTW.out]; rfl
            have HV2 : Hid ((look D' (key s)).isSome = false) := by show _ = _; rw [HL.out, HTW.out]; rfl
            go_region_held3 (fun V => V.cell? ⟨kb, 0, none⟩ = some (.string s) ∧ V.cell? ⟨p, 1, none⟩ = some (.map (some bm)) ∧ (Instr.lookup 49 (.map (some bm)) (.string s) false).run Try.prog V = .ok (.pointer (some ⟨f.ptr, 0, none⟩)) V) (first | go_keep | (refine ⟨?_, ?_, ?_⟩ <;> assumption)) (fail)
            clear hlk
            go_wp2_with (at_lookup; refine wpList_look_ok _ rfl _ _ 72 rfl 9 3 Try.keyedStr Try.underlying72 (.int .i64 0) (Try.zeroInt _) w.heap.size _ D' rfl HO1.out.drew _ (key s) rfl HKEY.out (.int .i64 0) false HV.out HV2.out ?_)
            go_quiet (fail)
            all_goals
              go_wp2
              go_ret2
              first | exact ⟨rfl, below_dn HB1.out _⟩ | exact ⟨rfl, below_dn HB1.out.drew _⟩
          · by_cases hu : (f.bytes.length : Int) - (f.sure : Int) < t.2
            · have hf := hff
              have hnm := HT.out.name t htm
              have hr1 := HB.out.size
              obtain ⟨s, x⟩ := t
              have HHr := hid (HH.out.below HB.out (Nat.le_refl _))
              have hcp := HHr.out.blk.cell (i := 1) rfl
              have hpl := HHr.out.blk.lt
              have HF := hid hf
              have HTW := hid htw
              have hep := fun W => eql_ptr_nil W f.ptr
              clear ht htm hff htw
              simp only at hc0 hc1 HF HTW hx hu
              have hd1 : decide (x < 0) = false := by rw [decide_eq_false_iff_not]; exact hx
              have HFM := hid (ffind_mem HF.out).1
              have hbyl : f.bytes.length ≤ 268435456 := by have h1 := total_mem HFM.out; have h2 := HH.out.room; have h3 := HH.out.big; omega
              go_wp2
              have HBK : Hid (Blk (wr.alloc (.cells #[.string s, .int .i64 x] 53)) wr.heap.size 53 [.string s, .int .i64 x]) := Blk.new wr 53 [.string s, .int .i64 x]
              have HD1 := hid (HHr.out.alloc (.cells #[.string s, .int .i64 x] 53))
              have HO1 := hid (HO.out.alloc (.cells #[.string s, .int .i64 x] 53))
              have HB1 : Hid (Below w.heap.size w (wr.alloc (.cells #[.string s, .int .i64 x] 53))) := HB.out.alloc hr1 _
              have hkb : w.heap.size ≤ wr.heap.size := hr1
              generalize wr.alloc (.cells #[.string s, .int .i64 x] 53) = W1 at *
              generalize wr.heap.size = kb at *
              clear hc0 hc1 hcp hpl
              have k0 := HBK.out.cell (i := 0) rfl
              have k1 := HBK.out.cell (i := 1) rfl
              have cp := HD1.out.blk.cell (i := 1) rfl
              have hlk := dlook HD1.out.drew hnm
              rw [HF.out] at hlk
              simp only [Option.map_some, Option.getD_some, Fl.at] at hlk
              have HKEY := hid (Try.keyStr hnm)
              have HV : Hid ((look D' (key s)).getD (.int .i64 0) = .int .i64 0) := by show _ = _; rw [HL.out, HTW.out]; rfl
              have HV2 : Hid ((look D' (key s)).isSome = false) := by show _ = _; rw [HL.out, HTW.out]; rfl
              go_region_held3 (fun V => V.cell? ⟨kb, 0, none⟩ = some (.string s) ∧ V.cell? ⟨p, 1, none⟩ = some (.map (some bm)) ∧ (Instr.lookup 49 (.map (some bm)) (.string s) false).run Try.prog V = .ok (.pointer (some ⟨f.ptr, 0, none⟩)) V) (first | go_keep | (refine ⟨?_, ?_, ?_⟩ <;> assumption)) (fail)
              clear hlk
              go_wp2_with (at_lookup; refine wpList_look_ok _ rfl _ _ 72 rfl 9 3 Try.keyedStr Try.underlying72 (.int .i64 0) (Try.zeroInt _) w.heap.size _ D' rfl HO1.out.drew _ (key s) rfl HKEY.out (.int .i64 0) false HV.out HV2.out ?_)
              go_region_held3 (fun V => V.cell? ⟨kb, 1, none⟩ = some (.int .i64 x)) (go_keep)
                (first | (go_at_call 59; refine (unsure_any (HD1.out.drew.drew.files f HFM.out) hbyl).mono ?_; rintro e w3 ⟨rfl, q, rfl⟩))
              go_wp2
              go_ret2
              exact ⟨rfl, below_dn HB1.out _⟩
            · skip
              have hno := htw
              have hf := hff
              have hge : 0 ≤ t.2 := by omega
              have hle : t.2 ≤ f.bytes.length - f.sure := by omega
              have HPRE2 := hid (one_pre hlt HPRE.out (by rw [← ht]; exact ⟨hno, hge, f, hf, hle⟩))
              have HNO := hid hno
              have HF := hid hf
              clear hx hu hff htw
              have hnm := HT.out.name t htm
              have hr1 := HB.out.size
              obtain ⟨s, x⟩ := t
              have HHr := hid (HH.out.below HB.out (Nat.le_refl _))
              have HTS : Hid (ts.take (j + 1) = ts.take j ++ [(s, x)]) := by show _ = _; rw [List.take_succ_eq_append_getElem hlt, ← ht]
              have hd1 : decide (x < 0) = false := by rw [decide_eq_false_iff_not]; simpa using hge
              have hd2 : decide ((f.bytes.length : Int) - (f.sure : Int) < x) = false := by rw [decide_eq_false_iff_not]; simp at hle; omega
              have hep := fun W => eql_ptr_nil W f.ptr
              have hcp := HHr.out.blk.cell (i := 1) rfl
              have hpl := HHr.out.blk.lt
              clear hno hf ht htm hge hle
              simp only at hc0 hc1
              go_wp2
              have HBK : Hid (Blk (wr.alloc (.cells #[.string s, .int .i64 x] 53)) wr.heap.size 53 [.string s, .int .i64 x]) := Blk.new wr 53 [.string s, .int .i64 x]
              have HD1 := hid (HHr.out.alloc (.cells #[.string s, .int .i64 x] 53))
              have HO1 := hid (HO.out.alloc (.cells #[.string s, .int .i64 x] 53))
              have HB1 : Hid (Below w.heap.size w (wr.alloc (.cells #[.string s, .int .i64 x] 53))) := HB.out.alloc hr1 _
              have hkb : w.heap.size ≤ wr.heap.size := hr1
              generalize wr.alloc (.cells #[.string s, .int .i64 x] 53) = W1 at *
              generalize wr.heap.size = kb at *
              clear hc0 hc1 hcp hpl
              have k0 := HBK.out.cell (i := 0) rfl
              have k1 := HBK.out.cell (i := 1) rfl
              have cp := HD1.out.blk.cell (i := 1) rfl
              have hlk := dlook HD1.out.drew hnm
              rw [HF.out] at hlk
              simp only [Option.map_some, Option.getD_some, Fl.at] at hlk
              have HKEY := hid (Try.keyStr hnm)
              have HV : Hid ((look D' (key s)).getD (.int .i64 0) = .int .i64 0) := by show _ = _; rw [HL.out, HNO.out]; rfl
              have HV2 : Hid ((look D' (key s)).isSome = false) := by show _ = _; rw [HL.out, HNO.out]; rfl
              have HFM := hid (ffind_mem HF.out).1
              have hbyl : f.bytes.length ≤ 268435456 := by have h1 := total_mem HFM.out; have h2 := HH.out.room; have h3 := HH.out.big; omega
              go_region_held3 (fun V => V.cell? ⟨kb, 0, none⟩ = some (.string s) ∧ V.cell? ⟨p, 1, none⟩ = some (.map (some bm)) ∧ (Instr.lookup 49 (.map (some bm)) (.string s) false).run Try.prog V = .ok (.pointer (some ⟨f.ptr, 0, none⟩)) V) (first | go_keep | (refine ⟨?_, ?_, ?_⟩ <;> assumption)) (fail)
              clear hlk
              go_wp2_with (at_lookup; refine wpList_look_ok _ rfl _ _ 72 rfl 9 3 Try.keyedStr Try.underlying72 (.int .i64 0) (Try.zeroInt _) w.heap.size _ D' rfl HO1.out.drew _ (key s) rfl HKEY.out (.int .i64 0) false HV.out HV2.out ?_)
              go_region_held3 (fun V => V.cell? ⟨kb, 1, none⟩ = some (.int .i64 x)) (go_keep)
                (first | (go_at_call 59; refine (unsure_any (HD1.out.drew.drew.files f HFM.out) hbyl).mono ?_; rintro e w3 ⟨rfl, q, rfl⟩))
              obtain ⟨w6, hrun, hown6, hmt⟩ := (show (W1.drewN (1 + (1 + q))).ownsMap Try.prog 9 valR w.heap.size j D' from HO1.out).store Try.keyedStr Try.underlying72 (by unfold maxLen; omega) (Try.keyStr hnm) (show valR (.int .i64 x) = some (.held (.int .i64 x), []) from rfl)
              have HO6 := hid hown6
              have HM6 := hid hmt
              clear hown6 hmt
              go_wp2
              go_roundw
              case rel => exact ⟨j + 1, _, by omega, by go_num, HO6.out, lastLook HO1.out HL.out HTS.out HNO.out, HPRE2.out, lastBelow HB1.out HM6.out⟩
              case measure => simp [intOf]; omega
        · have hf := hff
          have hnm := HT.out.name t htm
          have hr1 := HB.out.size
          obtain ⟨s, x⟩ := t
          have HHr := hid (HH.out.below HB.out (Nat.le_refl _))
          have hcp := HHr.out.blk.cell (i := 1) rfl
          have hpl := HHr.out.blk.lt
          have HF := hid hf
          have HTW := hid htw
          have hep := fun W => eql_ptr_nil W f.ptr
          clear ht htm hff htw
          simp only at hc0 hc1 HF HTW
          go_wp2
          have HBK : Hid (Blk (wr.alloc (.cells #[.string s, .int .i64 x] 53)) wr.heap.size 53 [.string s, .int .i64 x]) := Blk.new wr 53 [.string s, .int .i64 x]
          have HD1 := hid (HHr.out.alloc (.cells #[.string s, .int .i64 x] 53))
          have HO1 := hid (HO.out.alloc (.cells #[.string s, .int .i64 x] 53))
          have HB1 : Hid (Below w.heap.size w (wr.alloc (.cells #[.string s, .int .i64 x] 53))) := HB.out.alloc hr1 _
          have hkb : w.heap.size ≤ wr.heap.size := hr1
          generalize wr.alloc (.cells #[.string s, .int .i64 x] 53) = W1 at *
          generalize wr.heap.size = kb at *
          clear hc0 hc1 hcp hpl
          have k0 := HBK.out.cell (i := 0) rfl
          have k1 := HBK.out.cell (i := 1) rfl
          have cp := HD1.out.blk.cell (i := 1) rfl
          have hlk := dlook HD1.out.drew hnm
          rw [HF.out] at hlk
          simp only [Option.map_some, Option.getD_some, Fl.at] at hlk
          have HKEY := hid (Try.keyStr hnm)
          obtain ⟨lv, hlv⟩ : ∃ v, (look D' (key s)).getD (.int .i64 0) = v := ⟨_, rfl⟩
          have HV := hid hlv
          have HV2 : Hid ((look D' (key s)).isSome = true) := by show _ = _; rw [HL.out, HTW.out]; rfl
          clear hlv
          go_region_held3 (fun V => V.cell? ⟨kb, 0, none⟩ = some (.string s) ∧ V.cell? ⟨p, 1, none⟩ = some (.map (some bm)) ∧ (Instr.lookup 49 (.map (some bm)) (.string s) false).run Try.prog V = .ok (.pointer (some ⟨f.ptr, 0, none⟩)) V) (first | go_keep | (refine ⟨?_, ?_, ?_⟩ <;> assumption)) (fail)
          clear hlk
          go_wp2_with (at_lookup; refine wpList_look_ok _ rfl _ _ 72 rfl 9 3 Try.keyedStr Try.underlying72 (.int .i64 0) (Try.zeroInt _) w.heap.size _ D' rfl HO1.out.drew _ (key s) rfl HKEY.out lv true HV.out HV2.out ?_)
          go_quiet (fail)
          all_goals
            go_wp2
            go_ret2
            first | exact ⟨rfl, below_dn HB1.out _⟩ | exact ⟨rfl, below_dn HB1.out.drew _⟩
    · exact absurd (okFrom_of (fun i hi => by simpa using HPRE.out i hi (by omega))) HBAD.out
end
end Go.Proofs.Ytjfohnkfcfifeaa
