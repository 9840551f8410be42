/-
  Package disk: an Append that is refused; Append at any input.
-/
import Derived.Test.YtjfohnkfcfifeaaDiskJ0
import Derived.Deep.RegionWith
namespace Go.Proofs.Ytjfohnkfcfifeaa
open Go.RowKit Go.Maps

section Room
attribute [local go_sem] undef
variable {w : World} {p bm : Nat} {size calls : Int} {fs : List Fl} {D : DataW Value}
set_option maxRecDepth 100000 in
set_option maxHeartbeats 4000000 in
theorem append1_room (h : DiskAt w p bm size calls fs D) (s : ByteArray) (hs : s.size ≤ maxLen) (n : Nat) (ao : Option Addr) (len cap : Nat)
    (hd : Blk w n 23 [.pointer (some ⟨p, 0, none⟩)]) (hn : Blk w (n + 1) 9 [.string s]) (hb : Blk w (n + 2) 31 [.slice ao len cap]) (hroom : size < (total fs : Int) + len) :
    Calls Try.prog 21 #[.pointer (some ⟨n, 0, none⟩), .pointer (some ⟨n + 1, 0, none⟩), .pointer (some ⟨n + 2, 0, none⟩)] w fun e w' => e = .returned (.int .i64 2) ∧ Below w.heap.size w w' := by
  have hc1 := h.blk.cell (i := 1) rfl
  have hlk := dlook h.drew hs
  generalize ((ffind fs s).map Fl.at).getD (.pointer none) = z at hlk
  have hd0 := hd.cell (i := 0) rfl
  have hn0 := hn.cell (i := 0) rfl
  have hb0 := hb.cell (i := 0) rfl
  have HD := hid hd
  have HBb := hid hb
  have HH := hid h
  have hle : size - (total fs : Int) < (len : Int) := by omega
  have hpl := h.blk.lt
  clear h hd hn hb
  go_enter Try.func21, Try.ntmps21
  go_wp2
  go_region_held3 (fun V => V.cell? ⟨n, 0, none⟩ = some (.pointer (some ⟨p, 0, none⟩)) ∧ V.cell? ⟨n + 1, 0, none⟩ = some (.string s) ∧ V.cell? ⟨p, 1, none⟩ = some (.map (some bm)) ∧ (Instr.lookup 49 (.map (some bm)) (.string s) false).run Try.prog V = .ok z V) (first | go_keep | (refine ⟨?_, ?_, ?_, ?_⟩ <;> assumption)) (fail)
  go_wp2
  clear hlk
  have hd0' : w.drew.drew.cell? ⟨n, 0, none⟩ = some (.pointer (some ⟨p, 0, none⟩)) := hd0
  have hb0' : w.drew.drew.cell? ⟨n + 2, 0, none⟩ = some (.slice ao len cap) := hb0
  first | (go_region_with (go_at_call 17; refine (left_any HH.out.drew.drew).mono ?_; rintro e w3 ⟨rfl, hbel⟩; have HB3 := hid hbel; have hx0 : w3.cell? ⟨n, 0, none⟩ = some (.pointer (some ⟨p, 0, none⟩)) := (hbel.cell (p := ⟨n, 0, none⟩) (by simpa using HD.out.lt)).trans hd0; have hx1 : w3.cell? ⟨n + 2, 0, none⟩ = some (.slice ao len cap) := (hbel.cell (p := ⟨n + 2, 0, none⟩) (by simpa using HBb.out.lt)).trans hb0; clear hbel)) | fail
  all_goals
    go_wp2
    go_ret
    exact ⟨rfl, (drew_below w).trans ((drew_below w.drew).trans HB3.out)⟩
end Room
section
variable {w : World} {p bm : Nat} {size calls : Int} {fs : List Fl} {D : DataW Value}
set_option maxRecDepth 100000 in
set_option maxHeartbeats 4000000 in
theorem append1_many (h : DiskAt w p bm size calls fs D) (s : ByteArray) (hs : s.size ≤ maxLen) (hf : ffind fs s = none) (hmany : 64 ≤ fs.length) (n : Nat) (ao : Option Addr) (len cap : Nat)
    (hd : Blk w n 23 [.pointer (some ⟨p, 0, none⟩)]) (hn : Blk w (n + 1) 9 [.string s]) (hb : Blk w (n + 2) 31 [.slice ao len cap]) (hroom : (total fs : Int) + len ≤ size) :
    Calls Try.prog 21 #[.pointer (some ⟨n, 0, none⟩), .pointer (some ⟨n + 1, 0, none⟩), .pointer (some ⟨n + 2, 0, none⟩)] w fun e w' => e = .returned (.int .i64 2) ∧ Below w.heap.size w w' := by
  have hc1 := h.blk.cell (i := 1) rfl
  have hlk := dlook h.drew hs
  rw [hf] at hlk
  simp only [Option.map_none, Option.getD_none] at hlk
  have hd0 := hd.cell (i := 0) rfl
  have hn0 := hn.cell (i := 0) rfl
  have hb0 := hb.cell (i := 0) rfl
  have HD := hid hd
  have HBb := hid hb
  have HH := hid h
  have hle : decide (size - (total fs : Int) < (len : Int)) = false := by rw [decide_eq_false_iff_not]; omega
  have hpl := h.blk.lt
  clear h hf hd hn hb
  go_enter Try.func21, Try.ntmps21
  go_wp2
  go_region_held3 (fun V => V.cell? ⟨n, 0, none⟩ = some (.pointer (some ⟨p, 0, none⟩)) ∧ V.cell? ⟨n + 1, 0, none⟩ = some (.string s) ∧ V.cell? ⟨p, 1, none⟩ = some (.map (some bm)) ∧ (Instr.lookup 49 (.map (some bm)) (.string s) false).run Try.prog V = .ok (.pointer none) V) (first | go_keep | (refine ⟨?_, ?_, ?_, ?_⟩ <;> assumption)) (fail)
  go_wp2
  clear hlk
  have hln0 := HH.out.drew.drew.map.len Try.underlying49 3
  rw [HH.out.cnt] at hln0
  have hesd : (64 : Int) ≤ (fs.length : Int) := by omega
  have hc1' : w.drew.drew.cell? ⟨p, 1, none⟩ = some (.map (some bm)) := hc1
  have hd0' : w.drew.drew.cell? ⟨n, 0, none⟩ = some (.pointer (some ⟨p, 0, none⟩)) := hd0
  have hb0' : w.drew.drew.cell? ⟨n + 2, 0, none⟩ = some (.slice ao len cap) := hb0
  go_region_held3 (fun V => V.cell? ⟨n, 0, none⟩ = some (.pointer (some ⟨p, 0, none⟩)) ∧ V.cell? ⟨n + 2, 0, none⟩ = some (.slice ao len cap) ∧ V.cell? ⟨p, 1, none⟩ = some (.map (some bm)) ∧ (Builtin.len_ #[49] 3 #[.map (some bm)]).run Try.prog V = .ok (.int .i64 fs.length) V) (first | (refine ⟨?_, ?_, ?_, ?_⟩ <;> assumption) | go_keep)
    (first | (go_at_call 17; refine (left_any HH.out.drew.drew).mono ?_; rintro e w3 ⟨rfl, hbel⟩; have HB3 := hid hbel; have HD3 := hid (HH.out.drew.drew.below hbel (Nat.le_refl _)); have hln := HD3.out.map.len Try.underlying49 3; rw [HD3.out.cnt] at hln; have hx0 : w3.cell? ⟨n, 0, none⟩ = some (.pointer (some ⟨p, 0, none⟩)) := (hbel.cell (p := ⟨n, 0, none⟩) (by simpa using HD.out.lt)).trans hd0; have hx1 : w3.cell? ⟨n + 2, 0, none⟩ = some (.slice ao len cap) := (hbel.cell (p := ⟨n + 2, 0, none⟩) (by simpa using HBb.out.lt)).trans hb0; have hx2 : w3.cell? ⟨p, 1, none⟩ = some (.map (some bm)) := (hbel.cell (p := ⟨p, 1, none⟩) (by simpa using hpl)).trans hc1; clear hbel))
  go_wp2
  go_ret
  exact ⟨rfl, (drew_below w).trans ((drew_below w.drew).trans HB3.out)⟩

/-- Append, whatever comes of it. -/
theorem append_any (h : DiskAt w p bm size calls fs D) (hc : calls ≠ 0) (s : ByteArray) (hs : s.size ≤ maxLen) (ao : Option Addr) (len cap : Nat) (bs : List Int) (hB : Held w ao len cap bs) :
    Calls Try.prog 9 #[.pointer (some ⟨p, 0, none⟩), .string s, .slice ao len cap] w fun e w' => ∃ er, e = .returned (.int .i64 er) ∧
      ((nameS s = false ∧ er = 30 ∧ Now w w' p bm size calls fs fs) ∨
       (nameS s = true ∧ (size < (total fs : Int) + len ∨ (ffind fs s = none ∧ 64 ≤ fs.length)) ∧ er = 2 ∧ Now w w' p bm size calls fs fs) ∨
       (nameS s = true ∧ (total fs : Int) + len ≤ size ∧ er = 0 ∧ ((ffind fs s = none ∧ fs.length < 64 ∧ ∃ q v', Now w w' p bm size (counted calls) fs (fs ++ [⟨s, q, v', bs, 0⟩])) ∨ (∃ f v', ffind fs s = some f ∧ Now w w' p bm size (counted calls) fs (setF fs { f with v := v', bytes := f.bytes ++ bs }))))) := by
  have hb := boxes3_below w (.pointer (some ⟨p, 0, none⟩)) (.string s) (.slice ao len cap) 23 9 31
  obtain ⟨b0, b1, b2⟩ := boxes3_cells w (.pointer (some ⟨p, 0, none⟩)) (.string s) (.slice ao len cap) 23 9 31
  have hW := h.below hb (Nat.le_refl _)
  by_cases hg : nameS s = true
  · by_cases hroom : (total fs : Int) + len ≤ size
    · cases hf : ffind fs s with
      | some f =>
        refine (append_old h hc s hs hg hf ao len cap bs hB hroom).mono ?_
        rintro e w' ⟨er, rfl, rfl, v', hn⟩
        exact ⟨0, rfl, .inr (.inr ⟨hg, hroom, rfl, .inr ⟨f, v', rfl, hn⟩⟩)⟩
      | none =>
        by_cases hfew : fs.length < 64
        · refine (append_new h hc s hs hg hf hfew ao len cap bs hB hroom).mono ?_
          rintro e w' ⟨er, rfl, rfl, q, v', hn⟩
          exact ⟨0, rfl, .inr (.inr ⟨hg, hroom, rfl, .inl ⟨rfl, hfew, q, v', hn⟩⟩)⟩
        · have h64 : 64 ≤ fs.length := by omega
          refine (append_do w p s ao len cap (fun er w' => er = 2 ∧ Now w w' p bm size calls fs fs) ?_).mono ?_
          · refine giveName_do hW s hs hg _ _ _ ?_
            refine (change_do hW hc (.inl rfl) _ (fun er w' => er = 2 ∧ Now (boxes3 w (.pointer (some ⟨p, 0, none⟩)) (.string s) (.slice ao len cap) 23 9 31) w' p bm size calls fs fs) ?_).mono ?_
            · refine (append1_many hW s hs hf h64 w.heap.size ao len cap b0 b1 b2 hroom).mono ?_
              rintro e w' ⟨rfl, hbl⟩
              have hn := Now.same hW hbl
              exact ⟨2, rfl, ⟨rfl, hn⟩, hn.calls_cell⟩
            · rintro e w' ⟨er, w1, rfl, ⟨rfl, hn⟩, hw⟩
              rw [if_neg (fun h => by cases h.1)] at hw
              subst hw
              exact ⟨2, rfl, rfl, hn.ahead hb⟩
          · rintro e w' ⟨er, rfl, rfl, hn⟩
            exact ⟨2, rfl, .inr (.inl ⟨hg, .inr ⟨rfl, h64⟩, rfl, hn⟩)⟩
    · have hr : size < (total fs : Int) + len := by omega
      refine (append_do w p s ao len cap (fun er w' => er = 2 ∧ Now w w' p bm size calls fs fs) ?_).mono ?_
      · refine giveName_do hW s hs hg _ _ _ ?_
        refine (change_do hW hc (.inl rfl) _ (fun er w' => er = 2 ∧ Now (boxes3 w (.pointer (some ⟨p, 0, none⟩)) (.string s) (.slice ao len cap) 23 9 31) w' p bm size calls fs fs) ?_).mono ?_
        · refine (append1_room hW s hs w.heap.size ao len cap b0 b1 b2 hr).mono ?_
          rintro e w' ⟨rfl, hbl⟩
          have hn := Now.same hW hbl
          exact ⟨2, rfl, ⟨rfl, hn⟩, hn.calls_cell⟩
        · rintro e w' ⟨er, w1, rfl, ⟨rfl, hn⟩, hw⟩
          rw [if_neg (fun h => by cases h.1)] at hw
          subst hw
          exact ⟨2, rfl, rfl, hn.ahead hb⟩
      · rintro e w' ⟨er, rfl, rfl, hn⟩
        exact ⟨2, rfl, .inr (.inl ⟨hg, .inl hr, rfl, hn⟩)⟩
  · have hg' : nameS s = false := by simpa using hg
    refine (append_do w p s ao len cap (fun er w' => er = 30 ∧ Now w w' p bm size calls fs fs) ?_).mono ?_
    · refine (giveName_bad hW s hs hg' _ _).mono ?_
      rintro e w' ⟨rfl, rfl⟩
      exact ⟨30, rfl, rfl, Now.same h hb⟩
    · rintro e w' ⟨er, rfl, rfl, hn⟩
      exact ⟨30, rfl, .inl ⟨hg', rfl, hn⟩⟩
end
end Go.Proofs.Ytjfohnkfcfifeaa
